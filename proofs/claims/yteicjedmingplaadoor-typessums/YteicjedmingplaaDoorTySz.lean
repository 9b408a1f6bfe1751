/- types.check, Size; the document's TypeError. -/
import Derived.Test.YteicjedmingplaaDoorTyP
import Derived.Test.YteicjedmingplaaDoorWeights
namespace Go.Proofs.YteicjedmingplaaDoor
open Go.RowKit

/-- The error of a type, by its number. -/
def tyE (n : Nat) (z : Nat → Int) : Nat := if 6 < n then 2 else if n = 0 ∨ negB z n = true then 3 else if 20 < sumN z n then 2 else 0
theorem tyE_le (n : Nat) (z : Nat → Int) : tyE n z ≤ 3 := by unfold tyE; split <;> (try split) <;> (try split) <;> omega
theorem tyE_many {n : Nat} {z : Nat → Int} (h : 6 < n) : tyE n z = 2 := by unfold tyE; rw [if_pos h]
theorem tyE_neg {n k : Nat} {z : Nat → Int} (hn : n ≤ 6) (hk : k < n) (h : z k < 0) : tyE n z = 3 := by
  unfold tyE; rw [if_neg (by omega), if_pos (Or.inr ((negB_iff z n).2 ⟨k, hk, h⟩))]
theorem tyE_great {n : Nat} {z : Nat → Int} (hn : n ≤ 6) (h0 : 0 < n) (hg : negB z n = false) (h : 20 < sumN z n) : tyE n z = 2 := by
  unfold tyE; rw [if_neg (by omega), if_neg (by rw [hg]; simp; omega), if_pos h]
theorem tyE_none {n : Nat} {z : Nat → Int} (hn : n ≤ 6) (h0 : 0 < n) (hg : negB z n = false) (h : ¬ 20 < sumN z n) : tyE n z = 0 := by
  unfold tyE; rw [if_neg (by omega), if_neg (by rw [hg]; simp; omega), if_neg h]
theorem tyE_ok {n : Nat} {z : Nat → Int} (h : tyE n z = 0) : 0 < n ∧ n ≤ 6 ∧ (∀ i, i < n → 0 ≤ z i) ∧ sumN z n ≤ 20 := by
  unfold tyE at h
  by_cases h1 : 6 < n
  · rw [if_pos h1] at h; cases h
  · rw [if_neg h1] at h
    by_cases h2 : n = 0 ∨ negB z n = true
    · rw [if_pos h2] at h; cases h
    · rw [if_neg h2] at h
      by_cases h3 : 20 < sumN z n
      · rw [if_pos h3] at h; cases h
      · have hb : negB z n = false := by cases hb : negB z n <;> simp_all
        exact ⟨by omega, by omega, not_neg hb, by omega⟩
theorem tyE_bad (z : Nat → Int) : tyE 0 z = 3 := rfl

set_option maxRecDepth 100000 in
set_option maxHeartbeats 1000000 in
theorem check_some (a : Nat → Addr) (b o cap n : Nat) (z : Nat → Int) (w : World) (hE : Errs w a) (h : RowAt w b o n z) (h0 : 0 < n) (hn : n ≤ 6) :
    Calls Tryd.prog 34 #[.slice (some ⟨b, o, none⟩) n cap] w fun e w' => e = .returned (errV a (tyE n z)) ∧ w' = w := by
  have hmin := Min_some b o cap n z w h h0 (by omega)
  have HR := Hid.mk' h
  have e1 := hE.c1
  have e2 := hE.c2
  have hmn := minTo_neg z (n - 1)
  rw [Nat.sub_add_cancel h0] at hmn
  obtain ⟨lo, hlo⟩ : ∃ lo, lo = minTo z (n - 1) := ⟨_, rfl⟩
  rw [← hlo] at hmin hmn
  clear hlo h hE
  have hnI : (n : Int) ≤ 6 := by omega
  have hnb : ((n : Int) == 0) = false := by simp; omega
  rcases Int.lt_or_le lo 0 with hl | hl
  · have HL : Hid (tyE n z = 3) := by obtain ⟨i, hi, hz⟩ := (negB_iff z n).1 (hmn.1 hl); exact tyE_neg hn hi hz
    clear hmn
    go_enter Tryd.func34, Tryd.ntmps34
    go_wp2_with (go_at_call 57; refine hmin.mono ?_; rintro e w1 ⟨rfl, hw1⟩; rw [hw1]; clear hw1)
    go_ret
    exact ⟨by rw [HL.out]; rfl, rfl⟩
  · have HN : Hid (negB z n = false) := by cases hh : negB z n with | false => rfl | true => have := hmn.2 hh; omega
    have hlb : decide (lo < 0) = false := decide_eq_false (by omega)
    clear hmn
    go_enter Tryd.func34, Tryd.ntmps34
    go_wp2_with (first
      | (go_at_call 57; refine hmin.mono ?_; rintro e w1 ⟨rfl, hw1⟩; rw [hw1]; clear hw1))
    clear hmin
    go_loopw [3, 21] (fun s i wr => ∃ (k : Nat) (y : Int), k ≤ n ∧ s = .int .i64 (20 - y) ∧ i = .int .i64 k ∧ wr = w ∧ 0 ≤ y ∧ y ≤ 20 ∧ Hid (y = sumN z k)) (fun _ i _ => n - (intOf i).toNat)
    case atStart => exact ⟨0, 0, Nat.zero_le _, rfl, rfl, rfl, by omega, by omega, rfl⟩
    case round =>
      obtain ⟨k, y, hk, rfl, rfl, rfl, hy0, hy1, HY⟩ := hrel
      rcases Nat.lt_or_ge k n with h1 | h1
      · have hc := HR.out k h1
        have hkn : (k : Int) < (n : Int) := by omega
        have hzk := not_neg HN.out k h1
        have HU : Hid (sumN z (k + 1) = y + z k) := by show sumN z k + z k = _; rw [HY.out]
        have HM : Hid (sumN z (k + 1) ≤ sumN z n) := sumN_mono (not_neg HN.out) h1
        obtain ⟨x, hx⟩ : ∃ x, x = z k := ⟨_, rfl⟩
        rw [← hx] at hc hzk HU
        clear hx
        rcases Int.lt_or_le (20 - y) x with hx | hx
        · have HL : Hid (tyE n z = 2) := tyE_great hn h0 HN.out (by have h1 := HM.out; rw [HU.out] at h1; omega)
          go_wp2_with fail
          go_ret
          exact ⟨by rw [HL.out]; rfl, rfl⟩
        · go_wp2_with fail
          exact ⟨⟨k + 1, y + x, h1, by go_num, by go_num, trivial, by omega, by omega, HU.out.symm⟩, by simp [intOf]; omega⟩
      · obtain rfl : k = n := by omega
        go_wp2_with fail
        go_ret
        exact ⟨by rw [tyE_none hn h0 HN.out (by rw [← HY.out]; omega)]; rfl, rfl⟩
set_option maxRecDepth 100000 in
theorem check_any (a : Nat → Addr) (v : Value) (n : Nat) (z : Nat → Int) (w : World) (hE : Errs w a) (h : NumsAt w v n z) (hn : n ≤ 1000000) :
    Calls Tryd.prog 34 #[v] w fun e w' => e = .returned (errV a (tyE n z)) ∧ w' = w := by
  by_cases h6 : 6 < n
  · have h6I : 6 < (n : Int) := by omega
    have HL := Hid.mk' (tyE_many (z := z) h6)
    obtain ⟨ad, cap, rfl⟩ := h.form
    have e1 := hE.c1
    clear hE h
    go_enter Tryd.func34, Tryd.ntmps34
    go_wp2_with fail
    go_ret
    exact ⟨by rw [HL.out]; rfl, rfl⟩
  · rcases h with ⟨ad, cap, rfl, rfl⟩ | ⟨b, o, cap, rfl, h0, hr⟩
    · have e2 := hE.c2
      clear hE
      go_enter Tryd.func34, Tryd.ntmps34
      go_wp2_with fail
      go_ret
      exact ⟨rfl, rfl⟩
    · exact check_some a b o cap n z w hE hr h0 (by omega)

set_option maxRecDepth 100000 in
set_option maxHeartbeats 1000000 in
theorem TypeError_some (b o cap n : Nat) (z : Nat → Int) (w : World) (h : RowAt w b o n z) (h0 : 0 < n) (hn : n ≤ 6) :
    Calls Tryd.prog 15 #[.slice (some ⟨b, o, none⟩) n cap] w fun e w' => e = .returned (.int .i64 (tyE n z : Nat)) ∧ w' = w := by
  have HR := Hid.mk' h
  have hnI : (n : Int) ≤ 6 := by omega
  have hnb : ((n : Int) == 0) = false := by simp; omega
  clear h
  go_enter Tryd.func15, Tryd.ntmps15
  go_wp2_with fail
  go_loopw [3, 4, 5] (fun u g i wr => ∃ (k : Nat) (y : Int) (gb : Bool), k ≤ n ∧ g = .bool gb ∧ u = .int .i64 y ∧ i = .int .i64 k ∧ wr = w ∧ 0 ≤ y ∧ y ≤ (k : Int) * 20 ∧ Hid (negB z k = false ∧ (gb = true → 20 < sumN z k) ∧ (gb = false → y = sumN z k))) (fun _ _ i _ => n - (intOf i).toNat)
  case atStart => exact ⟨0, 0, false, Nat.zero_le _, rfl, rfl, rfl, rfl, by omega, by omega, rfl, (fun e => by cases e), fun _ => rfl⟩
  case round =>
    obtain ⟨k, y, gb, hk, rfl, rfl, rfl, rfl, hy0, hy1, HH⟩ := hrel
    rcases Nat.lt_or_ge k n with h1 | h1
    · have hc := HR.out k h1
      have hkn : (k : Int) < (n : Int) := by omega
      rcases Int.lt_or_le (z k) 0 with hz | hz
      · have HL := Hid.mk' (tyE_neg hn h1 hz)
        obtain ⟨x, hx⟩ : ∃ x, x = z k := ⟨_, rfl⟩
        rw [← hx] at hc hz
        clear hx
        go_wp2_with fail
        go_ret
        exact ⟨by rw [HL.out]; rfl, rfl⟩
      · have HN : Hid (negB z (k + 1) = false) := by
          show (negB z k || decide (z k < 0)) = false
          rw [HH.out.1, Bool.false_or]; exact decide_eq_false (by omega)
        have HU : Hid (sumN z (k + 1) = sumN z k + z k) := rfl
        have HP : Hid (0 ≤ sumN z k) := sumN_nonneg (not_neg HH.out.1)
        obtain ⟨x, hx⟩ : ∃ x, x = z k := ⟨_, rfl⟩
        rw [← hx] at hc hz HU
        clear hx
        cases gb with
        | true =>
          have HG : Hid (20 < sumN z (k + 1)) := by have := HH.out.2.1 rfl; show _ < _; rw [HU.out]; omega
          go_wp2_with fail
          exact ⟨⟨k + 1, y, true, h1, rfl, rfl, by go_num, trivial, hy0, by omega, HN.out, fun _ => HG.out, fun e => by cases e⟩, by simp [intOf]; omega⟩
        | false =>
          rcases Int.lt_or_le 20 x with hx | hx
          · have HG : Hid (20 < sumN z (k + 1)) := by have := HP.out; show _ < _; rw [HU.out]; omega
            go_wp2_with fail
            exact ⟨⟨k + 1, y, true, h1, rfl, rfl, by go_num, trivial, hy0, by omega, HN.out, fun _ => HG.out, fun e => by cases e⟩, by simp [intOf]; omega⟩
          · have hdx : decide (20 < x) = false := decide_eq_false (by omega)
            have HY : Hid (y + x = sumN z (k + 1)) := by show _ = _; rw [HU.out, HH.out.2.2 rfl]
            go_wp2_with fail
            exact ⟨⟨k + 1, y + x, false, h1, rfl, by go_num, by go_num, trivial, by omega, by omega, HN.out, (fun e => by cases e), fun _ => HY.out⟩, by simp [intOf]; omega⟩
    · obtain rfl : k = n := by omega
      cases gb with
      | true =>
        have HL := Hid.mk' (tyE_great hn h0 HH.out.1 (HH.out.2.1 rfl))
        go_wp2_with fail
        go_ret
        exact ⟨by rw [HL.out]; rfl, rfl⟩
      | false =>
        have hy := Hid.mk' (HH.out.2.2 rfl)
        rcases Int.lt_or_le 20 y with hx | hx
        · have HL := Hid.mk' (tyE_great hn h0 HH.out.1 (by rw [← hy.out]; exact hx))
          go_wp2_with fail
          go_ret
          exact ⟨by rw [HL.out]; rfl, rfl⟩
        · have HL := Hid.mk' (tyE_none hn h0 HH.out.1 (by rw [← hy.out]; omega))
          go_wp2_with fail
          go_ret
          exact ⟨by rw [HL.out]; rfl, rfl⟩
set_option maxRecDepth 100000 in
theorem TypeError_any (v : Value) (n : Nat) (z : Nat → Int) (w : World) (h : NumsAt w v n z) (hn : n ≤ 1000000) :
    Calls Tryd.prog 15 #[v] w fun e w' => e = .returned (.int .i64 (tyE n z : Nat)) ∧ w' = w := by
  by_cases h6 : 6 < n
  · have h6I : 6 < (n : Int) := by omega
    have HL := Hid.mk' (tyE_many (z := z) h6)
    obtain ⟨ad, cap, rfl⟩ := h.form
    clear h
    go_enter Tryd.func15, Tryd.ntmps15
    go_wp2_with fail
    go_ret
    exact ⟨by rw [HL.out]; rfl, rfl⟩
  · rcases h with ⟨ad, cap, rfl, rfl⟩ | ⟨b, o, cap, rfl, h0, hr⟩
    · go_enter Tryd.func15, Tryd.ntmps15
      go_wp2_with fail
      refine wp_loop_rounds 1 ?_
      rw [rounds_succ]
      go_wp2_with fail
      go_ret
      exact ⟨rfl, rfl⟩
    · exact TypeError_some b o cap n z w hr h0 (by omega)

theorem sumU_sumN {z : Nat → Int} {t : Nat → Nat} : ∀ {n : Nat}, (∀ i, i < n → z i = (t i : Int)) → sumN z n = (sumU t n : Int)
  | 0, _ => rfl
  | n + 1, h => by
    show sumN z n + z n = ((sumU t n + t n : Nat) : Int)
    rw [sumU_sumN (fun i hi => h i (by omega)), h n (by omega)]
    simp
set_option maxRecDepth 100000 in
set_option maxHeartbeats 1000000 in
theorem Size_ok (a : Nat → Addr) (v : Value) (n : Nat) (z : Nat → Int) (t : Nat → Nat) (w : World) (hE : Errs w a) (h : NumsAt w v n z) (he : tyE n z = 0) (ht : ∀ i, i < n → z i = (t i : Int)) :
    Calls Tryd.prog 16 #[v] w fun e w' => e = .returned (.tuple #[.int .i64 (rowU t n : Nat), .nilIface]) ∧ w' = w := by
  obtain ⟨h0, h6, hz, hs⟩ := tyE_ok he
  rw [sumU_sumN ht] at hs
  have hc := check_any a v n z w hE h (by omega)
  rw [he, errV_zero] at hc
  rcases h with ⟨_, _, _, hx⟩ | ⟨b, o, cap, rfl, _, hr⟩
  · omega
  have HR : Hid (RowAt w b o n (fun i => (t i : Int))) := fun i hi => by rw [hr i hi, ht i hi]
  have HLE := Hid.mk' (fun i (hi : i ≤ n) => sumU_le t hi)
  have hs20 : sumU t n ≤ 20 := by omega
  have hnI : (n : Int) ≤ 6 := by omega
  clear hr hz ht hs he hE
  go_enter Tryd.func16, Tryd.ntmps16
  go_wp2_with (go_at_call 34; refine hc.mono ?_; rintro e w1 ⟨rfl, hw1⟩; rw [hw1]; clear hw1)
  clear hc
  go_loopw [5, 6, 16] (fun r p i wr => ∃ k : Nat, k ≤ n ∧ r = .int .i64 (rowU t k : Nat) ∧ p = .int .i64 (sumU t k : Nat) ∧ i = .int .i64 k ∧ wr = w) (fun _ _ i _ => n - (intOf i).toNat)
  case atStart => exact ⟨0, Nat.zero_le _, rfl, rfl, rfl, rfl⟩
  case round =>
    obtain ⟨k, hk, rfl, rfl, rfl, rfl⟩ := hrel
    rcases Nat.lt_or_ge k n with h1 | h1
    · have hc := HR.out k h1
      have hkn : (k : Int) < (n : Int) := by omega
      have hle := HLE.out (k + 1) h1
      have hsu : sumU t (k + 1) = sumU t k + t k := rfl
      have HCH := Hid.mk' (choose_any (sumU t (k + 1)) (t k) wr (by omega) (by omega))
      have HRW : Hid (rowU t (k + 1) = rowU t k * chF (sumU t (k + 1)) (t k)) := rfl
      have hb := rowU_le t (k := k + 1) (by omega)
      rw [HRW.out] at hb
      have HSU := Hid.mk' hsu
      rw [hsu] at HCH HRW hb hle
      rw [show ((sumU t k + t k : Nat) : Int) = (sumU t k : Int) + (t k : Int) by omega] at HCH
      clear hsu
      obtain ⟨c, hcc⟩ : ∃ c, c = chF (sumU t k + t k) (t k) := ⟨_, rfl⟩
      rw [← hcc] at HCH HRW hb
      obtain ⟨r, hrr⟩ : ∃ r, r = rowU t k := ⟨_, rfl⟩
      rw [← hrr] at HRW hb ⊢
      obtain ⟨s, hss⟩ : ∃ s, s = sumU t k := ⟨_, rfl⟩
      rw [← hss] at HCH HSU hle ⊢
      obtain ⟨x, hxx⟩ : ∃ x, x = t k := ⟨_, rfl⟩
      rw [← hxx] at HCH HSU hle
      simp only [← hxx] at hc
      clear hcc hrr hss hxx
      obtain ⟨p, hp⟩ : ∃ p, p = r * c := ⟨_, rfl⟩
      have hpI : (r : Int) * (c : Int) = (p : Int) := by rw [hp]; simp
      rw [← hp] at HRW hb
      clear hp
      have hpb : (p : Int) ≤ 2432902008176640000 := by omega
      have hp0 : (0 : Int) ≤ (p : Int) := by omega
      have hsx : (s : Int) + (x : Int) ≤ 20 := by omega
      have hs0 : (0 : Int) ≤ (s : Int) := by omega
      have hx0 : (0 : Int) ≤ (x : Int) := by omega
      go_wp2_with fail
      refine HCH.out.mono ?_
      rintro e w1 ⟨rfl, hw1⟩
      rw [hw1]
      clear hw1
      go_wp2_with fail
      refine ⟨⟨k + 1, h1, by rw [HRW.out], by rw [HSU.out]; go_num, by go_num, trivial⟩, by simp [intOf]; omega⟩
    · obtain rfl : k = n := by omega
      go_wp2_with fail
      go_ret2
      exact ⟨rfl, rfl⟩
set_option maxRecDepth 100000 in
theorem Size_bad (a : Nat → Addr) (v : Value) (n : Nat) (z : Nat → Int) (w : World) (hE : Errs w a) (h : NumsAt w v n z) (hn : n ≤ 1000000) (he : tyE n z ≠ 0) :
    Calls Tryd.prog 16 #[v] w fun e w' => e = .returned (.tuple #[.int .i64 0, errV a (tyE n z)]) ∧ w' = w := by
  have hc := check_any a v n z w hE h hn
  obtain ⟨ad, cap, rfl⟩ := h.form
  rw [errV_pos a he] at hc ⊢
  generalize tyE n z - 1 = j at *
  clear h hE
  go_enter Tryd.func16, Tryd.ntmps16
  go_wp2_with (go_at_call 34; refine hc.mono ?_; rintro e w1 ⟨rfl, hw1⟩; rw [hw1]; clear hw1)
  go_ret2
  exact ⟨rfl, rfl⟩
end Go.Proofs.YteicjedmingplaaDoor
