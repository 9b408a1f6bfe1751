/- The document's Contains, JoinError, inverse. -/
import Derived.Test.YtgklaadkglbclaaDoorSkJq
import Derived.Deep.RegionHeld3
namespace Go.Proofs.YtgklaadkglbclaaDoor
open Go.RowKit

set_option maxRecDepth 100000 in
set_option maxHeartbeats 1000000 in
theorem DContains_row (b o cap n : Nat) (z : Nat → Int) (v : Int) (w : World) (h : RowAt w b o n z) (hn : n ≤ 1000000) :
    Calls Tryd.prog 25 #[.slice (some ⟨b, o, none⟩) n cap, .int .i64 v] w fun e w' => e = .returned (.bool (inB z n v)) ∧ w' = w := by
  have HR := Hid.mk' h
  clear h
  go_enter Tryd.func25, Tryd.ntmps25
  go_wp2_with fail
  go_loop [5] (fun t => ∃ k : Nat, k ≤ n ∧ t = .int .i64 k ∧ Hid (inB z k v = false)) (fun t => n - (intOf t).toNat)
  case atStart => exact ⟨0, Nat.zero_le _, rfl, rfl⟩
  case round =>
    obtain ⟨k, hk, rfl, HS⟩ := hrel
    rcases Nat.lt_or_ge k n with h1 | h1
    · have hc := HR.out k h1
      have hkI : (k : Int) < (n : Int) := by omega
      by_cases e : z k = v
      · have HX : Hid (inB z n v = true) := (inB_iff z v n).2 ⟨k, h1, e⟩
        have hb : (z k == v) = true := by rw [beq_iff_eq]; exact e
        generalize z k = y at *
        clear e
        go_wp2_with fail
        go_ret
        exact ⟨by rw [HX.out]; rfl, rfl⟩
      · have HN : Hid (inB z (k + 1) v = false) := by show (inB z k v || decide (z k = v)) = false; rw [HS.out, decide_eq_false e]; rfl
        have hb : (z k == v) = false := by rw [beq_eq_false_iff_ne]; exact e
        generalize z k = y at *
        clear e
        go_wp2_with fail
        exact ⟨⟨k + 1, h1, by go_num, HN⟩, by simp [intOf]; omega⟩
    · obtain rfl : n = k := by omega
      go_wp2_with fail
      go_ret
      exact ⟨by rw [HS.out]; rfl, rfl⟩
set_option maxRecDepth 100000 in
set_option maxHeartbeats 1000000 in
theorem Dinverse_any (p a : Nat) (w : World) (hF : FldN p) (h0 : 0 < a) (ha : a < p) :
    Calls Tryd.prog 37 #[.int .i64 (a : Int), .int .i64 (p : Int)] w fun e w' => e = .returned (.int .i64 (ivN p a : Int)) ∧ w' = w := by
  have hp2 := hF.two
  have hp9 := hF.le
  have hpz : ¬ (p : Int) = 0 := by omega
  have hp0 : ¬ p = 0 := by omega
  have hpI : (p : Int) ≤ 997 := by omega
  have HON : Hid (∀ x, x < p → a * x % p = 1 → x = ivN p a) := fun x hx h1 => ivN_only hF h0 ha hx h1
  have HIV : Hid (a * ivN p a % p = 1 ∧ 0 < ivN p a ∧ ivN p a < p) := ⟨ivN_mul hF h0 ha, ivN_pos hF h0 ha, ivN_lt hF a⟩
  clear hF
  go_enter Tryd.func37, Tryd.ntmps37
  go_wp2_with fail
  go_loop [5] (fun t => ∃ k : Nat, 1 ≤ k ∧ k ≤ ivN p a ∧ t = .int .i64 k) (fun t => p - (intOf t).toNat)
  case atStart => exact ⟨1, by omega, HIV.out.2.1, rfl⟩
  case round =>
    obtain ⟨k, hk1, hk, rfl⟩ := hrel
    have hiv := HIV.out
    have hkp : k < p := by omega
    have hkI : (k : Int) < (p : Int) := by omega
    have m1 : a * k ≤ 997 * 997 := Nat.mul_le_mul (by omega) (by omega)
    have hmod : (a : Int) * (k : Int) % (p : Int) = ((a * k % p : Nat) : Int) := by rw [Int.natCast_emod, Int.natCast_mul]
    by_cases e : a * k % p = 1
    · have HK := Hid.mk' (HON.out k hkp e)
      have hb : ((a : Int) * (k : Int) % (p : Int) == 1) = true := by rw [hmod, e]; rfl
      clear e hmod hiv hk
      go_wp2_with fail
      go_ret
      exact ⟨by rw [← HK.out]; rfl, rfl⟩
    · have hb : ((a : Int) * (k : Int) % (p : Int) == 1) = false := by rw [hmod, beq_eq_false_iff_ne]; omega
      have hk2 : k + 1 ≤ ivN p a := by
        rcases Nat.lt_or_ge k (ivN p a) with h | h
        · omega
        · obtain rfl : k = ivN p a := by omega
          exact absurd hiv.1 e
      clear e hmod hiv
      go_wp2_with fail
      exact ⟨⟨k + 1, by omega, hk2, by go_num⟩, by simp [intOf]; omega⟩
set_option maxRecDepth 100000 in
set_option maxHeartbeats 4000000 in
theorem JoinError_any (p : Int) (ad : Option Addr) (m cap : Nat) (z : Nat → Int) (u : Value) (n : Nat) (y : Nat → Int) (w : World) (h : NumsAt w (.slice ad m cap) m z) (hroom : m ≤ cap) (k : NumsAt w u n y) (hm : m ≤ 1000) (hn : n ≤ 1000) :
    Calls Tryd.prog 20 #[.int .i64 p, .slice ad m cap, u] w fun e w' => e = .returned (.int .i64 (joE p m z n y : Nat)) ∧ Below w.heap.size w w' := by
  have hF := IsField_any p w
  have hI := InField_any 1 p _ m z w h (by omega)
  have hJ := InField_any 0 p _ n y w k (by omega)
  obtain ⟨ad', cap', rfl⟩ := k.form
  clear k
  cases h1 : fldB p with
  | false =>
    have HE : Hid (joE p m z n y = 8) := by show _ = _; unfold joE; rw [if_pos h1]
    rw [h1] at hF
    clear h1 hI hJ h
    go_enter Tryd.func20, Tryd.ntmps20
    go_wp2_with fail
    refine hF.mono ?_
    rintro e w1 ⟨rfl, hw1⟩
    rw [hw1]
    clear hw1 hF
    go_wp2_with fail
    go_ret
    exact ⟨by rw [HE.out]; rfl, Below.refl _ _⟩
  | true =>
    rw [h1] at hF
    by_cases h2 : m = 0 ∨ 12 < m
    · have HE : Hid (joE p m z n y = 2) := by show _ = _; unfold joE; rw [if_neg (by simp [h1]), if_pos h2]
      clear h1 hI hJ h
      go_enter Tryd.func20, Tryd.ntmps20
      go_wp2_with fail
      refine hF.mono ?_
      rintro e w1 ⟨rfl, hw1⟩
      rw [hw1]
      clear hw1 hF
      by_cases g1 : m = 0
      · have k1 : ((m : Int) == 0) = true := by rw [beq_iff_eq]; omega
        clear h2 g1
        go_wp2_with fail
        go_ret
        exact ⟨by rw [HE.out]; rfl, Below.refl _ _⟩
      · have k1 : ((m : Int) == 0) = false := by rw [beq_eq_false_iff_ne]; omega
        have k2 : (12 : Int) < (m : Int) := by omega
        clear h2 g1
        go_wp2_with fail
        go_ret
        exact ⟨by rw [HE.out]; rfl, Below.refl _ _⟩
    · have k1 : ((m : Int) == 0) = false := by rw [beq_eq_false_iff_ne]; omega
      have k2 : decide ((12 : Int) < (m : Int)) = false := decide_eq_false (by omega)
      obtain ⟨b, o, rfl, hrow⟩ : ∃ b o, ad = some ⟨b, o, none⟩ ∧ RowAt w b o m z := by
        rcases h with ⟨_, _, _, hx⟩ | ⟨b, o, c', hx, _, hr⟩
        · omega
        · obtain ⟨rfl, _⟩ : ad = _ ∧ _ := by simpa using hx
          exact ⟨b, o, rfl, hr⟩
      have HE : Hid (joE p m z n y = if n ≠ m ∨ inFB z 1 p m = false ∨ inFB y 0 p n = false ∨ twiB z m = true then 3 else 0) := by show _ = _; unfold joE; rw [if_neg (by simp [h1]), if_neg h2]
      clear h1 h2 h
      go_enter Tryd.func20, Tryd.ntmps20
      go_wp2_with fail
      refine hF.mono ?_
      rintro e w1 ⟨rfl, hw1⟩
      rw [hw1]
      clear hw1 hF
      go_wp2_with fail
      refine hI.mono ?_
      rintro e w1 ⟨rfl, hw1⟩
      rw [hw1]
      clear hw1 hI
      go_wp2_with fail
      refine hJ.mono ?_
      rintro e w1 ⟨rfl, hw1⟩
      rw [hw1]
      clear hw1 hJ
      cases g2 : inFB z 1 p m with
      | false =>
        have HE' : Hid (joE p m z n y = 3) := by show _ = _; rw [HE.out, if_pos (Or.inr (Or.inl g2))]
        clear g2 HE
        go_wp2_with fail
        go_ret
        exact ⟨by rw [HE'.out]; rfl, Below.refl _ _⟩
      | true =>
        cases g3 : inFB y 0 p n with
        | false =>
          have HE' : Hid (joE p m z n y = 3) := by show _ = _; rw [HE.out, if_pos (Or.inr (Or.inr (Or.inl g3)))]
          clear g2 g3 HE
          go_wp2_with fail
          go_ret
          exact ⟨by rw [HE'.out]; rfl, Below.refl _ _⟩
        | true =>
          by_cases g1 : n ≠ m
          · have HE' : Hid (joE p m z n y = 3) := by show _ = _; rw [HE.out, if_pos (Or.inl g1)]
            have k3 : ((m : Int) != (n : Int)) = true := by rw [bne_iff_ne]; omega
            clear g1 g2 g3 HE
            go_wp2_with fail
            go_ret
            exact ⟨by rw [HE'.out]; rfl, Below.refl _ _⟩
          · have k3 : ((m : Int) != (n : Int)) = false := by rw [bne_eq_false_iff_eq]; omega
            have HE' : Hid (joE p m z n y = if twiB z m = true then 3 else 0) := by
              show _ = _
              rw [HE.out]
              cases g4 : twiB z m with
              | true => rw [if_pos (Or.inr (Or.inr (Or.inr rfl))), if_pos rfl]
              | false => rw [if_neg (by rintro (h | h | h | h); exact g1 h; rw [g2] at h; cases h; rw [g3] at h; cases h; cases h), if_neg (by simp)]
            have HR : Hid (∀ W, Below w.heap.size w W → RowAt W b o m z) := fun W hb => hrow.later hb
            have hcI : (m : Int) ≤ (cap : Int) := by omega
            clear g1 g2 g3 HE hrow
            go_wp2_with fail
            go_loopw [10] (fun t wr => ∃ k : Nat, k ≤ m ∧ t = .int .i64 k ∧ Hid (Below w.heap.size w wr) ∧ Hid (twiB z k = false)) (fun t _ => m - (intOf t).toNat)
            case atStart => exact ⟨0, Nat.zero_le _, rfl, Below.refl _ _, rfl⟩
            case round =>
              obtain ⟨k, hk, rfl, HB, HS⟩ := hrel
              rcases Nat.lt_or_ge k m with h1 | h1
              · have hkI : (k : Int) < (m : Int) := by omega
                have hkc : (k : Int) ≤ (cap : Int) := by omega
                have HC : Hid (∀ W, Below w.heap.size w W → W.cell? ⟨b, o + k, none⟩ = some (.int .i64 (z k))) := fun W hb => HR.out W hb k h1
                have hcur0 : Below w.heap.size w wr := HB.out
                have hcur : Below w.heap.size w wr.drew := HB.out.drew
                have HCT : Hid (∀ W, Below w.heap.size w W → Calls Tryd.prog 25 #[.slice (some ⟨b, o, none⟩) k cap, .int .i64 (z k)] W fun e w' => e = .returned (.bool (inB z k (z k))) ∧ w' = W) := fun W hb => DContains_row b o cap k z (z k) W (fun i hi => HR.out W hb i (by omega)) (by omega)
                have HT1 : Hid (inB z k (z k) = true → twiB z m = true) := fun h => twiB_yes h h1
                have HT2 : Hid (inB z k (z k) = false → twiB z (k + 1) = false) := fun h => by show (twiB z k || inB z k (z k)) = false; rw [HS.out, h]; rfl
                generalize inB z k (z k) = q at *
                generalize z k = x at *
                go_wp2_with fail
                go_region_held3 (fun W => W.cell? ⟨b, o + k, none⟩ = some (.int .i64 x)) (first | exact HC.out _ hcur0 | exact HC.out _ hcur) (first
                  | (go_at_call 25; refine (HCT.out _ hcur).mono ?_; rintro e w5 ⟨rfl, hw5⟩; rw [hw5]; clear hw5 w5))
                cases q with
                | true =>
                  have HT1' := Hid.mk' (HT1.out rfl)
                  go_wp2_with fail
                  go_ret
                  exact ⟨by rw [HE'.out, HT1'.out]; rfl, hcur⟩
                | false =>
                  have HT2' := Hid.mk' (HT2.out rfl)
                  go_wp2_with fail
                  exact ⟨⟨k + 1, h1, by go_num, Hid.mk' hcur, HT2'⟩, by simp [intOf]; omega⟩
              · obtain rfl : m = k := by omega
                go_wp2_with fail
                go_ret
                exact ⟨by rw [HE'.out, HS.out]; rfl, HB.out⟩
end Go.Proofs.YtgklaadkglbclaaDoor
