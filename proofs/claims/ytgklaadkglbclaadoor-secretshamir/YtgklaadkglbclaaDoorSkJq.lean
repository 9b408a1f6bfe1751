/- secret.Join. -/
import Derived.Test.YtgklaadkglbclaaDoorSkJp
namespace Go.Proofs.YtgklaadkglbclaaDoor
open Go.RowKit

/-- What is wrong with shares to be joined: p, m places z, n values y. -/
def joE (p : Int) (m : Nat) (z : Nat → Int) (n : Nat) (y : Nat → Int) : Nat := if fldB p = false then 8 else if m = 0 ∨ 12 < m then 2 else if n ≠ m ∨ inFB z 1 p m = false ∨ inFB y 0 p n = false ∨ twiB z m = true then 3 else 0
theorem joE_le (p : Int) (m : Nat) (z : Nat → Int) (n : Nat) (y : Nat → Int) : joE p m z n y ≤ 8 := by
  unfold joE; repeat (split; omega)
  omega
/-- What right ones are, in numbers from 0 on. -/
theorem joE_ok {p : Int} {m : Nat} {z : Nat → Int} {n : Nat} {y : Nat → Int} (h : joE p m z n y = 0) : ∃ (P : Nat) (A V : Nat → Nat), p = (P : Int) ∧ FldN P ∧ 0 < m ∧ m ≤ 12 ∧ n = m ∧ Places P m A ∧ (∀ i, V i < P) ∧ (∀ i, i < m → z i = (A i : Int)) ∧ ∀ i, i < m → y i = (V i : Int) := by
  unfold joE at h
  cases h1 : fldB p with
  | false => rw [h1, if_pos rfl] at h; cases h
  | true =>
    rw [h1, if_neg (by simp)] at h
    by_cases h2 : m = 0 ∨ 12 < m
    · rw [if_pos h2] at h; cases h
    · rw [if_neg h2] at h
      by_cases h3 : n ≠ m ∨ inFB z 1 p m = false ∨ inFB y 0 p n = false ∨ twiB z m = true
      · rw [if_pos h3] at h; cases h
      · have hnm : n = m := by
          by_cases e : n = m
          · exact e
          · exact absurd (Or.inl e) h3
        have hz : inFB z 1 p m = true := by
          cases e : inFB z 1 p m with
          | true => rfl
          | false => exact absurd (Or.inr (Or.inl e)) h3
        have hy : inFB y 0 p n = true := by
          cases e : inFB y 0 p n with
          | true => rfl
          | false => exact absurd (Or.inr (Or.inr (Or.inl e))) h3
        have ht : twiB z m = false := by
          cases e : twiB z m with
          | false => rfl
          | true => exact absurd (Or.inr (Or.inr (Or.inr e))) h3
        subst hnm
        obtain ⟨a, b, c⟩ := fldB_ok h1
        have hz' := fun i (hi : i < n) => inFB_all hz hi
        have hy' := fun i (hi : i < n) => inFB_all hy hi
        refine ⟨p.toNat, fun i => if i < n then (z i).toNat else 0, fun i => if i < n then (y i).toNat else 0, by omega, ⟨by omega, by omega, c⟩, by omega, by omega, rfl, ⟨fun i => ?_, fun i hi => ?_, fun i j hi hj hij => ?_⟩, fun i => ?_, fun i hi => ?_, fun i hi => ?_⟩
        · show (if i < n then (z i).toNat else 0) < p.toNat
          split
          · rename_i hi; have := hz' i hi; omega
          · omega
        · show 0 < (if i < n then (z i).toNat else 0)
          rw [if_pos hi]; have := hz' i hi; omega
        · show (if i < n then (z i).toNat else 0) ≠ (if j < n then (z j).toNat else 0)
          rw [if_pos hi, if_pos hj]
          have e1 := hz' i hi
          have e2 := hz' j hj
          have hne : z i ≠ z j := by
            rcases Nat.lt_or_ge i j with h4 | h4
            · exact twiB_no ht h4 hj
            · exact fun e => twiB_no ht (show j < i by omega) hi e.symm
          omega
        · show (if i < n then (y i).toNat else 0) < p.toNat
          split
          · rename_i hi; have := hy' i hi; omega
          · omega
        · show z i = ((if i < n then (z i).toNat else 0 : Nat) : Int)
          rw [if_pos hi]; have := hz' i hi; omega
        · show y i = ((if i < n then (y i).toNat else 0 : Nat) : Int)
          rw [if_pos hi]; have := hy' i hi; omega
set_option maxRecDepth 100000 in
set_option maxHeartbeats 4000000 in
theorem Join_bad (a : Nat → Addr) (p : Int) (ad : Option Addr) (m cap : Nat) (z : Nat → Int) (u : Value) (n : Nat) (y : Nat → Int) (w : World) (hE : Errs w a) (h : NumsAt w (.slice ad m cap) m z) (hroom : m ≤ cap) (k : NumsAt w u n y) (hm : m ≤ 1000) (hn : n ≤ 1000) (hbad : joE p m z n y ≠ 0) :
    Calls Tryd.prog 22 #[.int .i64 p, .slice ad m cap, u] w fun e w' => e = .returned (.tuple #[.int .i64 0, errV a (joE p m z n y)]) ∧ Below w.heap.size w w' := by
  have hF := isModulus_any p w
  have hI := allFrom_any 1 (p - 1) _ m z w h (by omega)
  have hJ := allFrom_any 0 (p - 1) _ n y w k (by omega)
  rw [show p - 1 + 1 = p by omega] at hI hJ
  obtain ⟨ad', cap', rfl⟩ := k.form
  have cB := hE.c1
  have cS := hE.c2
  have cK := hE.c7
  clear k hE
  cases h1 : fldB p with
  | false =>
    have HE : Hid (joE p m z n y = 8) := by show _ = _; unfold joE; rw [if_pos h1]
    rw [h1] at hF
    clear h1 hI hJ hbad h
    go_enter Tryd.func22, Tryd.ntmps22
    go_wp2_with fail
    refine hF.mono ?_
    rintro e w1 ⟨rfl, hw1⟩
    rw [hw1]
    clear hw1 hF
    go_wp2_with fail
    go_region
    all_goals
      go_wp2_with fail
      go_ret2
      exact ⟨by rw [HE.out]; rfl, (Below.refl _ _).drew⟩
  | true =>
    obtain ⟨hp2, hp9, _⟩ := fldB_ok h1
    rw [h1] at hF
    by_cases h2 : m = 0 ∨ 12 < m
    · have HE : Hid (joE p m z n y = 2) := by show _ = _; unfold joE; rw [if_neg (by simp [h1]), if_pos h2]
      clear h1 hI hJ hbad h
      go_enter Tryd.func22, Tryd.ntmps22
      go_wp2_with fail
      refine hF.mono ?_
      rintro e w1 ⟨rfl, hw1⟩
      rw [hw1]
      clear hw1 hF
      by_cases g1 : m = 0
      · have k1 : (m : Int) < 1 := by omega
        clear h2 g1
        go_wp2_with fail
        go_region
        all_goals
          go_wp2_with fail
          go_ret2
          exact ⟨by rw [HE.out]; rfl, (Below.refl _ _).drew⟩
      · have k1 : decide ((m : Int) < 1) = false := decide_eq_false (by omega)
        have k2 : (12 : Int) < (m : Int) := by omega
        clear h2 g1
        go_wp2_with fail
        go_region
        all_goals
          go_wp2_with fail
          go_ret2
          exact ⟨by rw [HE.out]; rfl, (Below.refl _ _).drew⟩
    · have k1 : decide ((m : Int) < 1) = false := decide_eq_false (by omega)
      have k2 : decide ((12 : Int) < (m : Int)) = false := decide_eq_false (by omega)
      obtain ⟨b, o, rfl, hrow⟩ : ∃ b o, ad = some ⟨b, o, none⟩ ∧ RowAt w b o m z := by
        rcases h with ⟨_, _, _, hx⟩ | ⟨b, o, c', hx, _, hr⟩
        · omega
        · obtain ⟨rfl, _⟩ : ad = _ ∧ _ := by simpa using hx
          exact ⟨b, o, rfl, hr⟩
      have hT := hasTwice_row b o cap m z w hrow (by omega) hroom
      have h3 : n ≠ m ∨ inFB z 1 p m = false ∨ inFB y 0 p n = false ∨ twiB z m = true := by
        by_cases h3 : n ≠ m ∨ inFB z 1 p m = false ∨ inFB y 0 p n = false ∨ twiB z m = true
        · exact h3
        · exact absurd (by unfold joE; rw [if_neg (by simp [h1]), if_neg h2, if_neg h3]) hbad
      have HE : Hid (joE p m z n y = 3) := by show _ = _; unfold joE; rw [if_neg (by simp [h1]), if_neg h2, if_pos h3]
      clear h1 h2 hbad hrow h
      go_enter Tryd.func22, Tryd.ntmps22
      go_wp2_with fail
      refine hF.mono ?_
      rintro e w1 ⟨rfl, hw1⟩
      rw [hw1]
      clear hw1 hF
      by_cases g1 : n ≠ m
      · have k3 : ((n : Int) != (m : Int)) = true := by rw [bne_iff_ne]; omega
        clear h3 g1 hI hJ hT
        go_wp2_with fail
        go_region
        all_goals
          go_wp2_with fail
          go_ret2
          exact ⟨by rw [HE.out]; rfl, (Below.refl _ _).drew⟩
      · have k3 : ((n : Int) != (m : Int)) = false := by rw [bne_eq_false_iff_eq]; omega
        cases g2 : inFB z 1 p m with
        | false =>
          rw [g2] at hI
          clear h3 g1 g2 hJ hT
          go_wp2_with fail
          refine hI.mono ?_
          rintro e w1 ⟨rfl, hw1⟩
          rw [hw1]
          clear hw1 hI
          go_wp2_with fail
          go_region
          all_goals
            go_wp2_with fail
            go_ret2
            exact ⟨by rw [HE.out]; rfl, (Below.refl _ _).drew⟩
        | true =>
          rw [g2] at hI
          cases g3 : inFB y 0 p n with
          | false =>
            rw [g3] at hJ
            clear h3 g1 g2 g3 hT
            go_wp2_with fail
            refine hI.mono ?_
            rintro e w1 ⟨rfl, hw1⟩
            rw [hw1]
            clear hw1 hI
            go_wp2_with fail
            refine hJ.mono ?_
            rintro e w1 ⟨rfl, hw1⟩
            rw [hw1]
            clear hw1 hJ
            go_wp2_with fail
            go_region
            all_goals
              go_wp2_with fail
              go_ret2
              exact ⟨by rw [HE.out]; rfl, (Below.refl _ _).drew⟩
          | true =>
            rw [g3] at hJ
            have g4 : twiB z m = true := by
              rcases h3 with h3 | h3 | h3 | h3
              · exact absurd h3 g1
              · rw [g2] at h3; cases h3
              · rw [g3] at h3; cases h3
              · exact h3
            rw [g4] at hT
            clear h3 g1 g2 g3 g4
            go_wp2_with fail
            refine hI.mono ?_
            rintro e w1 ⟨rfl, hw1⟩
            rw [hw1]
            clear hw1 hI
            go_wp2_with fail
            refine hJ.mono ?_
            rintro e w1 ⟨rfl, hw1⟩
            rw [hw1]
            clear hw1 hJ
            go_wp2_with fail
            refine hT.mono ?_
            rintro e w1 ⟨rfl, hw1⟩
            rw [hw1]
            clear hw1 hT
            go_wp2_with fail
            go_region
            all_goals
              go_wp2_with fail
              go_ret2
              exact ⟨by rw [HE.out]; rfl, (Below.refl _ _).drew⟩
theorem inFB_true {z : Nat → Int} {lo p : Int} : ∀ {n : Nat}, (∀ i, i < n → lo ≤ z i ∧ z i < p) → inFB z lo p n = true
  | 0, _ => rfl
  | n + 1, h => inFB_next (inFB_true fun i hi => h i (by omega)) (h n (by omega))
theorem twiB_false {z : Nat → Int} : ∀ {n : Nat}, (∀ i j, i < j → j < n → z i ≠ z j) → twiB z n = false
  | 0, _ => rfl
  | n + 1, h => by
    have ih := twiB_false (z := z) (n := n) fun i j hij hj => h i j hij (by omega)
    have h1 : inB z n (z n) = false := by
      cases e : inB z n (z n) with
      | false => rfl
      | true =>
        obtain ⟨i, hi, e1⟩ := (inB_iff z (z n) n).1 e
        exact absurd e1 (h i n hi (by omega))
    simp [twiB, ih, h1]
set_option maxRecDepth 100000 in
set_option maxHeartbeats 4000000 in
theorem Join_ok (P m b o cap b' o' cap' : Nat) (A V : Nat → Nat) (w : World) (hr : RowAt w b o m (fun i => (A i : Int))) (hroom : m ≤ cap) (hv : RowAt w b' o' m (fun i => (V i : Int))) (hF0 : FldN P) (hPl : Places P m A) (hV : ∀ i, V i < P) (h0 : 0 < m) (hm : m ≤ 12) :
    Calls Tryd.prog 22 #[.int .i64 (P : Int), .slice (some ⟨b, o, none⟩) m cap, .slice (some ⟨b', o', none⟩) m cap'] w fun e w' => e = .returned (.tuple #[.int .i64 (joN P m A V : Int), .nilIface]) ∧ w' = w := by
  have hp2 := hF0.two
  have hp9 := hF0.le
  have hF := isModulus_any (P : Int) w
  have hfld : fldB (P : Int) = true := by unfold fldB; rw [decide_eq_true (by omega : (P : Int) ≤ 997), decide_eq_true (by omega : (2 : Int) ≤ P)]; simpa using hF0.pr
  have hI := allFrom_any 1 ((P : Int) - 1) _ m _ w (Or.inr ⟨b, o, cap, rfl, h0, hr⟩) (by omega)
  have hJ := allFrom_any 0 ((P : Int) - 1) _ m _ w (Or.inr ⟨b', o', cap', rfl, h0, hv⟩) (by omega)
  have hT := hasTwice_row b o cap m _ w hr (by omega) hroom
  rw [hfld] at hF
  rw [inFB_true (fun i hi => by have h1 := hPl.pos i hi; have h2 := hPl.lt i; omega)] at hI
  rw [inFB_true (fun i hi => by have h2 := hV i; omega)] at hJ
  rw [twiB_false (fun i j hij hj => by have := hPl.ne i j (by omega) hj (by omega); omega)] at hT
  have HPA := Hid.mk' (fun (i : Nat) (hi : i < m) => partAtZero_any P m i b o cap A w hr hPl.lt hp2 hp9 hi hm)
  have HV := Hid.mk' hv
  have HVL := Hid.mk' hV
  have HSL := Hid.mk' (fun k => joS_le (A := A) (m := m) hp2 hV k)
  have k1 : decide ((m : Int) < 1) = false := decide_eq_false (by omega)
  have k2 : decide ((12 : Int) < (m : Int)) = false := decide_eq_false (by omega)
  have k3 : ((m : Int) != (m : Int)) = false := by simp
  have hpz : ¬ (P : Int) = 0 := by omega
  have hp0 : ¬ P = 0 := by omega
  have hpI : (P : Int) ≤ 997 := by omega
  have hpp : P * P ≤ 997 * 997 := Nat.mul_le_mul hp9 hp9
  clear hr hv hF0 hPl hV hfld
  go_enter Tryd.func22, Tryd.ntmps22
  go_wp2_with fail
  refine hF.mono ?_
  rintro e w1 ⟨rfl, hw1⟩
  rw [hw1]
  clear hw1 hF w1
  go_wp2_with fail
  refine hI.mono ?_
  rintro e w1 ⟨rfl, hw1⟩
  rw [hw1]
  clear hw1 hI w1
  go_wp2_with fail
  refine hJ.mono ?_
  rintro e w1 ⟨rfl, hw1⟩
  rw [hw1]
  clear hw1 hJ w1
  go_wp2_with fail
  refine hT.mono ?_
  rintro e w1 ⟨rfl, hw1⟩
  rw [hw1]
  clear hw1 hT w1
  go_wp2_with fail
  go_loop [8, 50] (fun s t => ∃ k : Nat, k ≤ m ∧ t = .int .i64 k ∧ s = .int .i64 (joS P m A V k : Int)) (fun _ t => m - (intOf t).toNat)
  case atStart => exact ⟨0, Nat.zero_le _, rfl, rfl⟩
  case round =>
    obtain ⟨k, hk, rfl, rfl⟩ := hrel
    have hsl := HSL.out k
    have hs12 : k * (P * P) ≤ 12 * (997 * 997) := Nat.mul_le_mul (by omega) hpp
    rcases Nat.lt_or_ge k m with h1 | h1
    · have hck : w.cell? ⟨b', o' + k, none⟩ = some (.int .i64 (V k : Int)) := HV.out k h1
      have hkI : (k : Int) < (m : Int) := by omega
      have hPA := HPA.out k h1
      have hpl := partN_lt (m := m) (A := A) (i := k) hp2
      have hvl := HVL.out k
      have HN : Hid (joS P m A V (k + 1) = joS P m A V k + V k * partN P m A k) := rfl
      generalize partN P m A k = q at *
      generalize joS P m A V k = s at *
      generalize V k = v at *
      have m1 : v * q ≤ 997 * 997 := Nat.mul_le_mul (by omega) (by omega)
      have hs : s ≤ 12 * (997 * 997) := by omega
      clear hs12 hsl
      go_wp2_with fail
      refine hPA.mono ?_
      rintro e w2 ⟨rfl, hw2⟩
      rw [hw2]
      clear hw2 hPA w2
      go_wp2_with fail
      exact ⟨⟨k + 1, h1, by go_num, by rw [HN.out]; simp⟩, by simp [intOf]; omega⟩
    · obtain rfl : m = k := by omega
      have HJ : Hid (joN P m A V = joS P m A V m % P) := rfl
      have hs : joS P m A V m ≤ 12 * (997 * 997) := by omega
      generalize joS P m A V m = s at *
      clear hs12 hsl
      go_wp2_with fail
      go_ret2
      exact ⟨by rw [HJ.out]; simp, rfl⟩
end Go.Proofs.YtgklaadkglbclaaDoor
