/- dist.Merge and the document's MergeOf. -/
import Derived.Test.YtofflboheiflaaaDoorCopy
import Derived.BigQuiet
namespace Go.Proofs.YtofflboheiflaaaDoor
open Go.RowKit

/-- Is a place not from 0 to 15? -/
def farB (t : Nat → Int) : Nat → Bool
  | 0 => false
  | k + 1 => farB t k || (decide (t k < 0) || decide (15 < t k))
theorem farB_iff (t : Nat → Int) : ∀ n, farB t n = true ↔ ∃ i, i < n ∧ (t i < 0 ∨ 15 < t i)
  | 0 => by simp [farB]
  | n + 1 => by
    have ih := farB_iff t n
    simp only [farB, Bool.or_eq_true, decide_eq_true_eq, ih]
    constructor
    · rintro (⟨i, h1, h2⟩ | h)
      · exact ⟨i, by omega, h2⟩
      · exact ⟨n, by omega, h⟩
    · rintro ⟨i, h1, h2⟩
      rcases Nat.lt_or_ge i n with h | h
      · exact Or.inl ⟨i, h, h2⟩
      · obtain rfl : i = n := by omega
        exact Or.inr h2
/-- The greatest place, or 0. -/
def topTo (t : Nat → Int) : Nat → Int
  | 0 => 0
  | k + 1 => if topTo t k < t k then t k else topTo t k
theorem topTo_nonneg (t : Nat → Int) : ∀ k, 0 ≤ topTo t k
  | 0 => Int.le_refl _
  | k + 1 => by
    have := topTo_nonneg t k
    show 0 ≤ if topTo t k < t k then t k else topTo t k
    split <;> omega
theorem topTo_le {t : Nat → Int} : ∀ {k : Nat}, (∀ i, i < k → t i ≤ 15) → topTo t k ≤ 15
  | 0, _ => by show (0 : Int) ≤ 15; omega
  | k + 1, h => by
    have := topTo_le (t := t) (k := k) (fun i hi => h i (by omega))
    have h1 := h k (by omega)
    show (if topTo t k < t k then t k else topTo t k) ≤ 15
    split <;> omega
theorem topTo_max (t : Nat → Int) : ∀ k, (∀ i, i ≤ k → 0 ≤ t i) → topTo t (k + 1) = maxTo t k
  | 0, h => by
    have := h 0 (Nat.le_refl _)
    show (if (0 : Int) < t 0 then t 0 else 0) = t 0
    split <;> omega
  | k + 1, h => by
    have ih := topTo_max t k (fun i hi => h i (by omega))
    show (if topTo t (k + 1) < t (k + 1) then t (k + 1) else topTo t (k + 1)) = (if maxTo t k < t (k + 1) then t (k + 1) else maxTo t k)
    rw [ih]
theorem topTo_ge {t : Nat → Int} : ∀ {k i : Nat}, i < k → t i ≤ topTo t k
  | 0, i, h => by omega
  | k + 1, i, h => by
    show t i ≤ if topTo t k < t k then t k else topTo t k
    rcases Nat.lt_or_ge i k with h' | h'
    · have := topTo_ge (t := t) h'; split <;> omega
    · obtain rfl : i = k := by omega
      split <;> omega
/-- What comes to a place. -/
def mergeV (z t : Nat → Int) (n : Nat) (j : Nat) : Int := sumN (fun i => if t i = (j : Int) then z i else 0) n
theorem mergeV_le {z t : Nat → Int} {n k j : Nat} (hz : ∀ i, i < n → 0 ≤ z i) (hk : k ≤ n) : 0 ≤ mergeV z t k j ∧ mergeV z t k j ≤ sumN z n := by
  unfold mergeV
  constructor
  · refine sumN_nonneg (fun i hi => ?_)
    have := hz i (by omega)
    split <;> omega
  · refine Int.le_trans (sumN_le (fun i hi => ?_)) (sumN_mono hz hk)
    have := hz i (by omega)
    split <;> omega
def mergeErr (t : Nat → Int) (n m : Nat) : Nat := if n ≠ m then 3 else if farB t m = true then 3 else 0
def mergeLen (t : Nat → Int) (n m : Nat) : Nat := if mergeErr t n m ≠ 0 then 0 else (topTo t m).toNat + 1
theorem mergeErr_ne {t : Nat → Int} {n m : Nat} (h : n ≠ m) : mergeErr t n m = 3 ∧ mergeLen t n m = 0 := by
  have : mergeErr t n m = 3 := by unfold mergeErr; exact if_pos h
  exact ⟨this, by unfold mergeLen; rw [this]; rfl⟩
theorem mergeErr_far {t : Nat → Int} {n : Nat} (h : farB t n = true) : mergeErr t n n = 3 ∧ mergeLen t n n = 0 := by
  have : mergeErr t n n = 3 := by unfold mergeErr; rw [if_neg (by simp), if_pos h]
  exact ⟨this, by unfold mergeLen; rw [this]; rfl⟩
theorem mergeErr_no {t : Nat → Int} {n : Nat} (h : farB t n = false) : mergeErr t n n = 0 ∧ mergeLen t n n = (topTo t n).toNat + 1 := by
  have : mergeErr t n n = 0 := by unfold mergeErr; rw [if_neg (by simp), if_neg (by rw [h]; simp)]
  exact ⟨this, by unfold mergeLen; rw [this]; rfl⟩

set_option maxRecDepth 100000 in
set_option maxHeartbeats 2000000 in
theorem MergeOf_some (b o cap b' o' cap' n : Nat) (z t : Nat → Int) (w : World) (h : RowAt w b o n z) (k : RowAt w b' o' n t) (hz : ∀ i, i < n → 0 ≤ z i) (hs : sumN z n ≤ 4096) (hn : n ≤ 16) :
    Calls Tryd.prog 6 #[.slice (some ⟨b, o, none⟩) n cap, .slice (some ⟨b', o', none⟩) n cap'] w fun e w' => ∃ v, e = .returned (.tuple #[v, .int .i64 (mergeErr t n n : Int)]) ∧ NumsAt w' v (mergeLen t n n) (mergeV z t n) ∧ Below w.heap.size w w' := by
  obtain ⟨i0, hi, hz0, hz1, hz2⟩ := info_parts Tryd.infoInt
  have HINF : Hid (Tryd.prog.info? 3 = some i0 ∧ i0.zero = some (.int .i64 0) ∧ i0.size = 1 ∧ i0.bytes = 8) := ⟨hi, hz0, hz1, hz2⟩
  have HT := Hid.mk' k
  have HR := Hid.mk' h
  have HML := Hid.mk' (fun k j (hk : k ≤ n) => mergeV_le (t := t) (j := j) hz hk)
  have HZ := Hid.mk' hz
  clear hi hz0 hz1 hz2 h k hz
  go_enter Tryd.func6, Tryd.ntmps6
  go_wp2_with fail
  go_loopw [6, 7] (fun s i wr => ∃ (k : Nat) (y : Int), k ≤ n ∧ s = .int .i64 y ∧ i = .int .i64 k ∧ wr = w ∧ 0 ≤ y ∧ y ≤ 15 ∧ Hid (y = topTo t k ∧ farB t k = false)) (fun _ i _ => n - (intOf i).toNat)
  case atStart => exact ⟨0, 0, Nat.zero_le _, rfl, rfl, rfl, by omega, by omega, rfl, rfl⟩
  case round =>
    obtain ⟨k, y, hk, rfl, rfl, hwr, hy0, hy1, HY⟩ := hrel
    rw [hwr]
    clear hwr
    rcases Nat.lt_or_ge k n with h1 | h1
    · have hc := HT.out k h1
      have hkn : (k : Int) < (n : Int) := by omega
      have HFA : Hid (t k < 0 ∨ 15 < t k → mergeErr t n n = 3 ∧ mergeLen t n n = 0) := fun hh => mergeErr_far ((farB_iff t n).2 ⟨k, h1, hh⟩)
      have HTP : Hid (topTo t (k + 1) = if y < t k then t k else y) := by show (if topTo t k < t k then t k else topTo t k) = _; rw [← HY.out.1]
      have HFB : Hid (farB t (k + 1) = (decide (t k < 0) || decide (15 < t k))) := by show (farB t k || _) = _; rw [HY.out.2, Bool.false_or]
      obtain ⟨x, hx⟩ : ∃ x, x = t k := ⟨_, rfl⟩
      rw [← hx] at hc HFA HTP HFB
      clear hx
      rcases Int.lt_or_le x 0 with hx0 | hx0
      · go_wp2_with fail
        go_ret2
        obtain ⟨e1, e2⟩ := HFA.out (Or.inl hx0)
        exact ⟨_, by rw [e1]; rfl, by rw [e2]; exact Or.inl ⟨_, _, rfl, rfl⟩, Below.refl _ _⟩
      · have hxd : decide (x < 0) = false := decide_eq_false (by omega)
        rcases Int.lt_or_le 15 x with hx1 | hx1
        · go_wp2_with fail
          go_ret2
          obtain ⟨e1, e2⟩ := HFA.out (Or.inr hx1)
          exact ⟨_, by rw [e1]; rfl, by rw [e2]; exact Or.inl ⟨_, _, rfl, rfl⟩, Below.refl _ _⟩
        · have hxe : decide (15 < x) = false := decide_eq_false (by omega)
          have HF1 : Hid (farB t (k + 1) = false) := by show _ = _; rw [HFB.out, hxd, hxe]; rfl
          rcases Int.lt_or_le y x with hyx | hyx
          · have HT1 : Hid (x = topTo t (k + 1)) := by show _ = _; rw [HTP.out, if_pos hyx]
            go_wp2_with fail
            exact ⟨⟨k + 1, x, h1, rfl, by go_num, trivial, hx0, hx1, HT1.out, HF1.out⟩, by simp [intOf]; omega⟩
          · have HT1 : Hid (y = topTo t (k + 1)) := by show _ = _; rw [HTP.out, if_neg (by omega)]
            go_wp2_with fail
            exact ⟨⟨k + 1, y, h1, rfl, by go_num, trivial, hy0, hy1, HT1.out, HF1.out⟩, by simp [intOf]; omega⟩
    · obtain rfl : k = n := by omega
      obtain ⟨T, hT⟩ := Int.eq_ofNat_of_zero_le hy0
      have HTT := Hid.mk' hT
      rw [hT] at hy1 ⊢
      clear hT hy0
      have HE : Hid (mergeErr t k k = 0 ∧ mergeLen t k k = T + 1) := by
        obtain ⟨e1, e2⟩ := mergeErr_no HY.out.2
        refine ⟨e1, ?_⟩
        rw [e2, ← HY.out.1, HTT.out]; simp
      go_wp2_with fail
      go_loopw [8, 9, 10, 11] (fun v i _ _ wr => ∃ j : Nat, j ≤ T + 1 ∧ i = .int .i64 j ∧ Hid (wr.ownsRow w.heap.size 3 1 v j (numCells (mergeV z t k) j)) ∧ Hid (Below w.heap.size w wr)) (fun _ i _ _ _ => T + 1 - (intOf i).toNat)
      case atStart => exact ⟨0, Nat.zero_le _, rfl, ⟨rfl, Or.inl ⟨rfl, rfl⟩⟩, Below.refl _ _⟩
      case round =>
        obtain ⟨j, hj, rfl, HO, HB⟩ := hrel
        rcases Nat.lt_or_ge T j with hlt | hge
        · obtain rfl : j = T + 1 := by omega
          have hjT : ((T + 1 : Nat) : Int) = (T : Int) + 1 := by omega
          have hnle : ¬ ((T + 1 : Nat) : Int) ≤ (T : Int) := by omega
          go_wp2_with fail
          go_ret2
          refine ⟨_, by rw [HE.out.1]; rfl, ?_, HB.out⟩
          rw [HE.out.2]
          rcases HO.out.2 with ⟨_, h0⟩ | ⟨gg, cap9, cur, rfl, _⟩
          · omega
          · exact Or.inr ⟨gg, 0, cap9, rfl, by omega, rowAt_of_row HO.out⟩
        · have hjT : (j : Int) ≤ (T : Int) := by omega
          go_wp2_with fail
          obtain ⟨Wr, hWr⟩ : ∃ Wr, Wr = wr := ⟨_, rfl⟩
          rw [← hWr] at HO HB ⊢
          clear hWr
          go_loopw [10, 11] (fun s i wr => ∃ (q : Nat) (y : Int), q ≤ k ∧ s = .int .i64 y ∧ i = .int .i64 q ∧ wr = Wr ∧ 0 ≤ y ∧ y ≤ 4096 ∧ Hid (y = mergeV z t q j)) (fun _ i _ => k - (intOf i).toNat)
          case atStart => exact ⟨0, 0, Nat.zero_le _, rfl, rfl, rfl, by omega, by omega, rfl⟩
          case round =>
            obtain ⟨q, y, hq, rfl, rfl, hwr, hy0, hy1', HYV⟩ := hrel
            rw [hwr]
            clear hwr
            rcases Nat.lt_or_ge q k with h2 | h2
            · have hcT := (HT.out.later HB.out) q h2
              have hcR := (HR.out.later HB.out) q h2
              have hqk : (q : Int) < (k : Int) := by omega
              have hzq := HZ.out q h2
              have hb1 := HML.out (q + 1) j h2
              have HV1 : Hid (mergeV z t (q + 1) j = y + if t q = (j : Int) then z q else 0) := by show mergeV z t q j + _ = _; rw [HYV.out]
              obtain ⟨x, hx⟩ : ∃ x, x = t q := ⟨_, rfl⟩
              rw [← hx] at hcT HV1
              clear hx
              obtain ⟨zq, hzz⟩ : ∃ zq, zq = z q := ⟨_, rfl⟩
              rw [← hzz] at hcR HV1 hzq
              clear hzz
              by_cases hxj : x = (j : Int)
              · rw [if_pos hxj] at HV1
                rw [HV1.out] at hb1
                have hxb : (x == (j : Int)) = true := by simpa using hxj
                clear hxj
                go_wp2_with fail
                exact ⟨⟨q + 1, y + zq, h2, by go_num, by go_num, trivial, by omega, by omega, HV1.out.symm⟩, by simp [intOf]; omega⟩
              · rw [if_neg hxj] at HV1
                have hxb : (x == (j : Int)) = false := by simpa using hxj
                clear hxj
                go_wp2_with fail
                exact ⟨⟨q + 1, y, h2, rfl, by go_num, trivial, hy0, hy1', by rw [HV1.out]; show _ = _; omega⟩, by simp [intOf]; omega⟩
            · obtain rfl : q = k := by omega
              have hzB := HB.out.size
              go_wp2_with (at_builtin; go_must (refine wpList_append_lies _ rfl _ _ _ rfl w.heap.size 3 i0 _ 1 8 Tryd.underlying22 HINF.out.1 HINF.out.2.1 HINF.out.2.2.1 HINF.out.2.2.2 rfl (by omega) u8 _ _ rfl (HO.out.alloc _) ⟨Wr.heap.size, 0, none⟩ 1 1 [.int .i64 y] rfl rfl (one_new _ _ _) (by simp [Value.oneCell']) (by omega) (by unfold maxLen; omega) (by omega) (by simp; omega) _ rfl ?_; intro g' cap2 w3 hown3 hgrow3 hat3 hlt3; have HO3 := Hid.mk' hown3; have HG3 := Hid.mk' hgrow3; clear hown3 hgrow3 hat3))
              refine ⟨⟨j + 1, by omega, by go_num, ?_, below_push HB.out HO.out HG3.out⟩, by simp [intOf]; omega⟩
              show World.ownsRow _ _ _ _ _ _ _
              have := HO3.out
              rw [HYV.out] at this
              exact this
end Go.Proofs.YtofflboheiflaaaDoor
