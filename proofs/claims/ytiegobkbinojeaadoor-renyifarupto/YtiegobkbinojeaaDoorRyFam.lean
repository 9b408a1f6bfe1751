/- Families of functions: the program's allBelow and Valid. -/
import Derived.Test.YtiegobkbinojeaaDoorTab
import Derived.Test.YtiegobkbinojeaaDoorTabCopy
import Derived.Test.YtiegobkbinojeaaDoorWeights
import Derived.BigQuiet
import Derived.Deep.CutRange
import Derived.Deep.DeepCutAuto
import Derived.Deep.RegionHeld3
import Derived.Deep.AppendLies
import Derived.Deep.QuietTactic
namespace Go.Proofs.YtiegobkbinojeaaDoor
open Go.RowKit

/-- Is there one of n? -/
def anyR (p : Nat → Bool) : Nat → Bool
  | 0 => false
  | n + 1 => anyR p n || p n
theorem anyR_at {p : Nat → Bool} : ∀ {n k : Nat}, p k = true → k < n → anyR p n = true
  | 0, k, _, h => by omega
  | n + 1, k, hk, h => by
    show (anyR p n || _) = true
    rcases Nat.lt_or_ge k n with h' | h'
    · rw [anyR_at hk h', Bool.true_or]
    · obtain rfl : k = n := by omega
      rw [hk, Bool.or_true]
theorem anyR_no {p : Nat → Bool} : ∀ {n : Nat}, anyR p n = false → ∀ k, k < n → p k = false
  | 0, _, k, h => by omega
  | n + 1, hn, k, h => by
    have h1 : (anyR p n || p n) = false := hn
    rw [Bool.or_eq_false_iff] at h1
    rcases Nat.lt_or_ge k n with h' | h'
    · exact anyR_no h1.1 k h'
    · obtain rfl : k = n := by omega
      exact h1.2
theorem anyR_none {p : Nat → Bool} : ∀ {n : Nat}, (∀ k, k < n → p k = false) → anyR p n = false
  | 0, _ => rfl
  | n + 1, h => by show (anyR p n || p n) = false; rw [anyR_none (fun k hk => h k (by omega)), h n (by omega)]; rfl
/-- Is a value not from 0 to M - 1? -/
def offB (M x : Int) : Bool := decide (x < 0) || decide (M ≤ x)
def outB (M : Int) (z : Nat → Int) (n : Nat) : Bool := anyR (fun k => offB M (z k)) n
def fRow (M : Int) (ns : Nat → Nat) (zs : Nat → Nat → Int) (i : Nat) : Bool := decide (ns i ≠ ns 0) || outB M (zs i) (ns i)
/-- What is wrong with a family. -/
def famErr (M : Int) (R : Nat) (ns : Nat → Nat) (zs : Nat → Nat → Int) : Nat :=
  if 64 < R ∨ M < 1 ∨ 16 < M then 2 else if longB ns R = true then 2 else if R = 0 ∨ ns 0 = 0 then 3 else if anyR (fRow M ns zs) R = true then 3 else 0
/-- A right one. -/
structure FamOk (M : Int) (R : Nat) (ns : Nat → Nat) (zs : Nat → Nat → Int) : Prop where
  pos : 0 < R
  le : R ≤ 64
  m1 : 1 ≤ M
  m16 : M ≤ 16
  n0 : 0 < ns 0
  n16 : ns 0 ≤ 16
  len : ∀ i, i < R → ns i = ns 0
  num : ∀ i, i < R → ∀ k, k < ns 0 → 0 ≤ zs i k ∧ zs i k < M
theorem offB_no {M x : Int} (h : offB M x = false) : 0 ≤ x ∧ x < M := by
  unfold offB at h
  rw [Bool.or_eq_false_iff] at h
  have h1 := of_decide_eq_false h.1
  have h2 := of_decide_eq_false h.2
  omega
theorem famErr_ok {M : Int} {R : Nat} {ns : Nat → Nat} {zs : Nat → Nat → Int} (h : famErr M R ns zs = 0) : FamOk M R ns zs := by
  unfold famErr at h
  by_cases h1 : 64 < R ∨ M < 1 ∨ 16 < M
  · rw [if_pos h1] at h; cases h
  · rw [if_neg h1] at h
    cases h2 : longB ns R with
    | true => rw [h2, if_pos rfl] at h; cases h
    | false =>
      rw [h2, if_neg (by decide)] at h
      by_cases h3 : R = 0 ∨ ns 0 = 0
      · rw [if_pos h3] at h; cases h
      · rw [if_neg h3] at h
        cases h4 : anyR (fRow M ns zs) R with
        | true => rw [h4, if_pos rfl] at h; cases h
        | false =>
          have hl : ∀ i, i < R → ns i = ns 0 ∧ ∀ k, k < ns i → 0 ≤ zs i k ∧ zs i k < M := fun i hi => by
            have h5 := anyR_no h4 i hi
            unfold fRow at h5
            rw [Bool.or_eq_false_iff] at h5
            exact ⟨by simpa using h5.1, fun k hk => offB_no (anyR_no h5.2 k hk)⟩
          have hlong : ns 0 ≤ 16 := by
            rcases Nat.lt_or_ge 16 (ns 0) with h6 | h6
            · have := longB_mono (n := R) (k := 0) (by omega) h6
              rw [h2] at this; cases this
            · exact h6
          exact ⟨by omega, by omega, by omega, by omega, by omega, hlong, fun i hi => (hl i hi).1, fun i hi k hk => (hl i hi).2 k (by rw [(hl i hi).1]; exact hk)⟩
theorem famErr_le (M : Int) (R : Nat) (ns : Nat → Nat) (zs : Nat → Nat → Int) : famErr M R ns zs ≤ 8 := by
  unfold famErr
  split
  · omega
  · split
    · omega
    · split
      · omega
      · split <;> omega
theorem TabAt.rowR {w : World} {ad : Option Addr} {R cap : Nat} {vs : Nat → Value} {ns : Nat → Nat} {zs : Nat → Nat → Int} (h : TabAt w (.slice ad R cap) R vs ns zs) {i : Nat} (hi : i < R) : ∃ b o, ad = some ⟨b, o, none⟩ ∧ w.cell? ⟨b, o + i, none⟩ = some (vs i) ∧ NumsAt w (vs i) (ns i) (zs i) := by
  rcases h with ⟨_, _, h1', h2'⟩ | ⟨b, o, c, h1', _, h2⟩
  · omega
  · simp only [Value.slice.injEq, true_and] at h1'
    exact ⟨b, o, h1'.1, h2 i hi⟩
set_option maxRecDepth 100000 in
set_option maxHeartbeats 2000000 in
theorem allBelow_any (M : Int) (v : Value) (n : Nat) (z : Nat → Int) (w : World) (h : NumsAt w v n z) (hn : n ≤ 1000000) :
    Calls Tryd.prog 31 #[v, .int .i64 M] w fun e w' => e = .returned (.bool (!outB M z n)) ∧ w' = w := by
  obtain ⟨ad, cap, rfl⟩ := h.form
  have HT := Hid.mk' h
  clear h
  go_enter Tryd.func31, Tryd.ntmps31
  go_wp2_with fail
  go_loop [9] (fun t => ∃ k : Nat, k ≤ n ∧ t = .int .i64 (k : Int) ∧ Hid (∀ j, j < k → offB M (z j) = false)) (fun t => n - (intOf t).toNat)
  case atStart => exact ⟨0, Nat.zero_le _, rfl, fun j hj => by omega⟩
  case round =>
    obtain ⟨k, hk, rfl, HS⟩ := hrel
    rcases Nat.lt_or_ge k n with h1 | h1
    · have hkI : (k : Int) < (n : Int) := by omega
      have hk0 : (0 : Int) ≤ (k : Int) := by omega
      rcases HT.out with ⟨_, _, _, h0⟩ | ⟨b, o, c, hv, _, hrow⟩
      · omega
      obtain ⟨rfl, rfl⟩ : ad = some ⟨b, o, none⟩ ∧ cap = c := by simpa using hv
      have hc := hrow k h1
      have HBAD : Hid (offB M (z k) = true → outB M z n = true) := fun hb => anyR_at hb h1
      have HGO : Hid (offB M (z k) = false → ∀ j, j < k + 1 → offB M (z j) = false) := fun hb j hj => by
        rcases Nat.lt_or_ge j k with h' | h'
        · exact HS.out j h'
        · obtain rfl : j = k := by omega
          exact hb
      clear hv hrow
      generalize z k = x at *
      by_cases hx : x < 0
      · have HV := Hid.mk' (HBAD.out (by unfold offB; rw [decide_eq_true hx]; rfl))
        have k1 : decide (x < 0) = true := decide_eq_true hx
        go_wp2_with fail
        go_ret
        exact ⟨by rw [HV.out]; rfl, rfl⟩
      · have k1 : decide (x < 0) = false := decide_eq_false hx
        by_cases hy : M ≤ x
        · have HV := Hid.mk' (HBAD.out (by unfold offB; rw [decide_eq_true hy, Bool.or_true]))
          have k2 : decide (M ≤ x) = true := decide_eq_true hy
          clear hx
          go_wp2_with fail
          go_ret
          exact ⟨by rw [HV.out]; rfl, rfl⟩
        · have HN := Hid.mk' (HGO.out (by unfold offB; rw [k1, decide_eq_false hy]; rfl))
          have k2 : decide (M ≤ x) = false := decide_eq_false hy
          clear hx hy
          go_wp2_with fail
          exact ⟨⟨k + 1, h1, by go_num, HN.out⟩, by simp [intOf]; omega⟩
    · obtain rfl : k = n := by omega
      have HV : Hid (outB M z k = false) := anyR_none HS.out
      have hkI : ¬ (k : Int) < (k : Int) := by omega
      go_wp2_with fail
      go_ret
      exact ⟨by rw [HV.out]; rfl, rfl⟩
set_option maxRecDepth 100000 in
set_option maxHeartbeats 4000000 in
theorem Valid_fam (a : Nat → Addr) (M : Int) (v : Value) (R : Nat) (vs : Nat → Value) (ns : Nat → Nat) (zs : Nat → Nat → Int) (w : World) (hE : Errs w a) (h : TabAt w v R vs ns zs) (hR : R ≤ 1000) (hns : ∀ i, i < R → ns i ≤ 100000) :
    Calls Tryd.prog 13 #[.agg #[.int .i64 M, v]] w fun e w' => e = .returned (errV a (famErr M R ns zs)) ∧ Below w.heap.size w w' := by
  obtain ⟨ad, cap, rfl⟩ := h.form
  obtain ⟨w1, hw1⟩ : ∃ w1, w1 = w.alloc (.cells #[.int .i64 M, .slice ad R cap] 32) := ⟨_, rfl⟩
  have hb1 : Below w.heap.size w w1 := by rw [hw1]; exact (Below.refl _ _).alloc (Nat.le_refl _) _
  have hc0 : w1.cell? ⟨w.heap.size, 0, none⟩ = some (.int .i64 M) := by rw [hw1]; go_simp
  have hc1 : w1.cell? ⟨w.heap.size, 1, none⟩ = some (.slice ad R cap) := by rw [hw1]; go_simp
  have hE1 := hE.below hb1
  have e1 := hE1.c1
  have e2 := hE1.c2
  have HB1 := Hid.mk' hb1
  have HW1 := Hid.mk' hw1
  have HT := Hid.mk' (h.later hb1)
  have HNS := Hid.mk' hns
  have hEV2 : errV a 2 = .iface 149 (.pointer (some (a 1))) := rfl
  have hEV3 : errV a 3 = .iface 149 (.pointer (some (a 2))) := rfl
  clear h hns hE hE1 hb1 hw1
  by_cases h1 : 64 < R ∨ M < 1 ∨ 16 < M
  · have HV : Hid (errV a (famErr M R ns zs) = .iface 149 (.pointer (some (a 1)))) := by show _ = _; unfold famErr; rw [if_pos h1]; rfl
    by_cases q1 : 64 < R
    · have k1 : (64 : Int) < (R : Int) := by omega
      clear h1 q1 hEV2 hEV3
      go_enter Tryd.func13, Tryd.ntmps13
      go_upto_region 1 with fail
      rw [← HW1.out]
      go_wp2_with fail
      go_ret
      exact ⟨by rw [HV.out]; rfl, HB1.out⟩
    · have k1 : ¬ (64 : Int) < (R : Int) := by omega
      by_cases q2 : M < 1
      · clear h1 q1 hEV2 hEV3
        go_enter Tryd.func13, Tryd.ntmps13
        go_upto_region 1 with fail
        rw [← HW1.out]
        go_wp2_with fail
        go_ret
        exact ⟨by rw [HV.out]; rfl, HB1.out⟩
      · have k3 : 16 < M := by omega
        clear h1 q1 hEV2 hEV3
        go_enter Tryd.func13, Tryd.ntmps13
        go_upto_region 1 with fail
        rw [← HW1.out]
        go_wp2_with fail
        go_ret
        exact ⟨by rw [HV.out]; rfl, HB1.out⟩
  · have k1 : ¬ (64 : Int) < (R : Int) := by omega
    have k2 : ¬ M < 1 := by omega
    have k3 : ¬ 16 < M := by omega
    have HS0 : Hid (famErr M R ns zs = if longB ns R = true then 2 else if R = 0 ∨ ns 0 = 0 then 3 else if anyR (fRow M ns zs) R = true then 3 else 0) := by show _ = _; unfold famErr; rw [if_neg h1]
    clear h1 hEV2 hEV3
    go_enter Tryd.func13, Tryd.ntmps13
    go_upto_region 1 with fail
    rw [← HW1.out]
    go_wp2_with fail
    go_loop [25] (fun t => ∃ k : Nat, k ≤ R ∧ t = .int .i64 (k : Int) ∧ Hid (longB ns k = false)) (fun t => R - (intOf t).toNat)
    case atStart => exact ⟨0, Nat.zero_le _, rfl, rfl⟩
    case round =>
      obtain ⟨k, hk, rfl, HK⟩ := hrel
      rcases Nat.lt_or_ge k R with h1 | h1
      · have hkI : (k : Int) < (R : Int) := by omega
        have hk0 : (0 : Int) ≤ (k : Int) := by omega
        obtain ⟨b, o, rfl, hcv, hnum⟩ := HT.out.rowR h1
        obtain ⟨rad, rcap, hv⟩ := hnum.form
        rw [hv] at hcv
        have HBAD : Hid (16 < ns k → errV a (famErr M R ns zs) = .iface 149 (.pointer (some (a 1)))) := fun hb => by rw [HS0.out, if_pos (longB_mono h1 hb)]; rfl
        have HGO : Hid (¬ 16 < ns k → longB ns (k + 1) = false) := fun hb => by show (longB ns k || decide (16 < ns k)) = false; rw [HK.out, decide_eq_false hb]; rfl
        clear hnum hv
        generalize ns k = nk at *
        by_cases hl : 16 < nk
        · have HV := Hid.mk' (HBAD.out hl)
          have j1 : (16 : Int) < (nk : Int) := by omega
          clear hl
          go_wp2_with fail
          go_ret
          exact ⟨by rw [HV.out]; rfl, HB1.out⟩
        · have HN := Hid.mk' (HGO.out hl)
          have j1 : ¬ (16 : Int) < (nk : Int) := by omega
          clear hl
          go_wp2_with fail
          exact ⟨⟨k + 1, h1, by go_num, HN.out⟩, by simp [intOf]; omega⟩
      · obtain rfl : k = R := by omega
        have hkI : ¬ (k : Int) < (k : Int) := by omega
        have HS1 : Hid (famErr M k ns zs = if k = 0 ∨ ns 0 = 0 then 3 else if anyR (fRow M ns zs) k = true then 3 else 0) := by show _ = _; rw [HS0.out, HK.out, if_neg (by decide)]
        clear HS0 HK
        by_cases h2 : k = 0
        · have HV : Hid (errV a (famErr M k ns zs) = .iface 149 (.pointer (some (a 2)))) := by show _ = _; rw [HS1.out, if_pos (Or.inl h2)]; rfl
          have j1 : ((k : Int) == 0) = true := by simp; exact h2
          clear h2
          go_wp2_with fail
          go_ret
          exact ⟨by rw [HV.out]; rfl, HB1.out⟩
        · have j1 : ((k : Int) == 0) = false := by simp; exact h2
          have hpos : 0 < k := by omega
          have hposI : (0 : Int) < (k : Int) := by omega
          obtain ⟨b, o, rfl, hc00, hnum0⟩ := HT.out.rowR hpos
          obtain ⟨zad, zcap, hv0⟩ := hnum0.form
          rw [hv0, Nat.add_zero] at hc00
          clear hnum0 hv0
          by_cases h3 : ns 0 = 0
          · have HV : Hid (errV a (famErr M k ns zs) = .iface 149 (.pointer (some (a 2)))) := by show _ = _; rw [HS1.out, if_pos (Or.inr h3)]; rfl
            have j2 : ((ns 0 : Int) == 0) = true := by simp; exact h3
            generalize ns 0 = m at *
            clear h3
            go_wp2_with fail
            go_ret
            exact ⟨by rw [HV.out]; rfl, HB1.out⟩
          · have j2 : ((ns 0 : Int) == 0) = false := by simp; exact h3
            have HS2 : Hid (famErr M k ns zs = if anyR (fRow M ns zs) k = true then 3 else 0) := by show _ = _; rw [HS1.out, if_neg (by omega)]
            have HR0 : Hid (∀ i, fRow M ns zs i = (decide (ns i ≠ ns 0) || outB M (zs i) (ns i))) := fun i => rfl
            clear HS1 h2 h3
            obtain ⟨m, hm⟩ : ∃ m, m = ns 0 := ⟨_, rfl⟩
            rw [← hm] at hc00 j2 HR0
            clear hm
            go_wp2_with fail
            go_loop [50] (fun t => ∃ j : Nat, j ≤ k ∧ t = .int .i64 (j : Int) ∧ Hid (∀ i, i < j → fRow M ns zs i = false)) (fun t => k - (intOf t).toNat)
            case atStart => exact ⟨0, Nat.zero_le _, rfl, fun j hj => by omega⟩
            case round =>
              obtain ⟨j, hj, rfl, HK⟩ := hrel
              rcases Nat.lt_or_ge j k with h1 | h1
              · have hkI : (j : Int) < (k : Int) := by omega
                have hk0 : (0 : Int) ≤ (j : Int) := by omega
                obtain ⟨b', o', hbo, hcv, hnum⟩ := HT.out.rowR h1
                obtain ⟨rfl, rfl⟩ : b = b' ∧ o = o' := by simpa using hbo
                have hab := allBelow_any M (vs j) (ns j) (zs j) w1 hnum (by have := HNS.out j h1; omega)
                obtain ⟨rad, rcap, hv⟩ := hnum.form
                rw [hv] at hcv hab
                have HBAD : Hid (fRow M ns zs j = true → errV a (famErr M k ns zs) = .iface 149 (.pointer (some (a 2)))) := fun hb => by rw [HS2.out, if_pos (anyR_at hb h1)]; rfl
                have HGO : Hid (fRow M ns zs j = false → ∀ i, i < j + 1 → fRow M ns zs i = false) := fun hb i hi => by
                  rcases Nat.lt_or_ge i j with h' | h'
                  · exact HK.out i h'
                  · obtain rfl : i = j := by omega
                    exact hb
                have HRW := Hid.mk' (HR0.out j)
                clear hnum hv hbo
                generalize ns j = nk at *
                generalize outB M (zs j) nk = q at *
                by_cases hlen : nk = m
                · have l2 : ((nk : Int) != (m : Int)) = false := by simp; omega
                  cases q with
                  | true =>
                    have HV := Hid.mk' (HBAD.out (by rw [HRW.out, Bool.or_true]))
                    clear hlen
                    go_wp2_with fail
                    refine hab.mono ?_
                    clear hab
                    rintro e w2 ⟨rfl, hw2⟩
                    rw [hw2]
                    clear hw2
                    go_wp2_with fail
                    go_ret
                    exact ⟨by rw [HV.out]; rfl, HB1.out⟩
                  | false =>
                    have HN := Hid.mk' (HGO.out (by rw [HRW.out]; simp; exact hlen))
                    clear hlen
                    go_wp2_with fail
                    refine hab.mono ?_
                    clear hab
                    rintro e w2 ⟨rfl, hw2⟩
                    rw [hw2]
                    clear hw2
                    go_wp2_with fail
                    exact ⟨⟨j + 1, h1, by go_num, HN.out⟩, by simp [intOf]; omega⟩
                · have HV := Hid.mk' (HBAD.out (by rw [HRW.out]; simp; exact Or.inl hlen))
                  have l2 : ((nk : Int) != (m : Int)) = true := by simp; omega
                  clear hlen hab
                  go_wp2_with fail
                  go_ret
                  exact ⟨by rw [HV.out]; rfl, HB1.out⟩
              · obtain rfl : j = k := by omega
                have hkI : ¬ (j : Int) < (j : Int) := by omega
                have HV : Hid (errV a (famErr M j ns zs) = .nilIface) := by show _ = _; rw [HS2.out, anyR_none HK.out, if_neg (by decide)]; rfl
                go_wp2_with fail
                go_ret
                exact ⟨by rw [HV.out]; rfl, HB1.out⟩
end Go.Proofs.YtiegobkbinojeaaDoor
