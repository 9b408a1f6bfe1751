/- The document's chance, weighed over contexts. -/
import Derived.Test.YtkglaiigoogapaaGreatDoorPackB
import Derived.Shelf.SlGeneric
import Derived.Shelf.Strings.Repeat
import Derived.Shelf.Strings.Prefix
import Derived.Shelf.Small.Wraps
import Derived.Shelf.Slices.Turned
import Derived.Shelf.SlSortCmp.Insertion
import Derived.Ground.NamesProg
import Derived.Ground.SlsfProg
import Derived.Test.YtkglaiigoogapaaGreatDoorProg
import Derived.Laws.EntriesVeiled
namespace Go.Proofs.YtkglaiigoogapaaGreatDoor
open Go.RowKit

def rowZ (s : ByteArray) : Nat → ByteArray
  | 0 => s
  | i + 1 => ⟨#[48]⟩ ++ rowZ s i
theorem rowZ_size (s : ByteArray) : ∀ i, (rowZ s i).size = i + s.size
  | 0 => (Nat.zero_add _).symm
  | i + 1 => by
    show ((⟨#[48]⟩ : ByteArray) ++ rowZ s i).size = _
    rw [ByteArray.size_append, rowZ_size s i]
    show 1 + (i + s.size) = _
    omega
theorem bits_one48 : BitsA ⟨#[48]⟩ := fun i hi => by
  obtain rfl : i = 0 := by have h2 : i < 1 := hi; omega
  exact Or.inl rfl
theorem bits_one49 : BitsA ⟨#[49]⟩ := fun i hi => by
  obtain rfl : i = 0 := by have h2 : i < 1 := hi; omega
  exact Or.inr rfl
theorem rowZ_bits {s : ByteArray} (h : BitsA s) : ∀ i, BitsA (rowZ s i)
  | 0 => h
  | i + 1 => bits_one48.append (rowZ_bits h i)

theorem wtl (a c : ByteArray) : (a.toList == c.toList) = decide (a = c) := by
  rw [ByteArray.toList_eq, ByteArray.toList_eq]
  by_cases h : a = c
  · rw [decide_eq_true h, h]; simp
  · rw [decide_eq_false h, beq_eq_false_iff_ne]
    exact fun he => h (ByteArray.ext (Array.toList_inj.1 he))
theorem low_bigW {M : Nat} (hM : 0 < M) {x : Nat} (hx : x < 1000000 ^ 700) (hR : M < 1000000 ^ 700) : (lowN M (x : Int)).natAbs < 1000000 ^ 700 ∧ lowD M (x : Int) < 1000000 ^ 700 := by
  have h1 := lowN_le hM (x : Int)
  have h2 := lowD_le M (x : Int)
  rw [Int.natAbs_natCast] at h1
  exact ⟨by omega, by omega⟩
theorem Times_W (M S W A : Nat) (hM : 0 < M) (hS : 0 < S) (hM2 : M < 1000000 ^ 700) (hS2 : S < 1000000 ^ 700) (hW2 : W < 1000000 ^ 700) (hA2 : A < 1000000 ^ 700) (u v : Value) (w : World) (hu : RatioAt w u (lowN M (W : Int)) (lowD M (W : Int))) (hv : RatioAt w v (lowN S (A : Int)) (lowD S (A : Int))) :
    Calls Tryz.prog 21 #[u, v] w fun e w' => ∃ r, e = .returned r ∧ RatioAt w' r (lowN (M * S) ((W * A : Nat) : Int)) (lowD (M * S) ((W * A : Nat) : Int)) ∧ Below w.heap.size w w' := by
  have ru := low_bigW hM hW2 hM2
  have rv := low_bigW hS hA2 hS2
  have h3 := Times_ratio u v _ _ _ _ 700 w hu hv (lowD_pos hM _) (lowD_pos hS _) ru.1 rv.1 ru.2 rv.2 (by decide)
  have h4 := low_step hM hS (W : Int) (A : Int)
  rw [h4.1, h4.2, show (W : Int) * (A : Int) = ((W * A : Nat) : Int) by simp] at h3
  exact h3
theorem Plus_W (M K A B : Nat) (hM : 0 < M) (hK : 0 < K) (hM2 : M < 1000000 ^ 700) (hK2 : K < 1000000 ^ 700) (hA2 : A < 1000000 ^ 700) (hB2 : B < 1000000 ^ 700) (u v : Value) (w : World) (hu : RatioAt w u (lowN M (A : Int)) (lowD M (A : Int))) (hv : RatioAt w v (lowN K (B : Int)) (lowD K (B : Int))) :
    Calls Tryz.prog 14 #[u, v] w fun e w' => ∃ r, e = .returned r ∧ RatioAt w' r (lowN (M * K) ((A * K + B * M : Nat) : Int)) (lowD (M * K) ((A * K + B * M : Nat) : Int)) ∧ Below w.heap.size w w' := by
  have ru := low_bigW hM hA2 hM2
  have rv := low_bigW hK hB2 hK2
  have h3 := Plus_ratio u v _ _ _ _ 700 w hu hv (lowD_pos hM _) (lowD_pos hK _) ru.1 rv.1 ru.2 rv.2 (by decide)
  have h4 := low_plusW hM hK (A : Int) (B : Int)
  rw [h4.1, h4.2, show (A : Int) * (K : Int) + (B : Int) * (M : Int) = ((A * K + B * M : Nat) : Int) by simp] at h3
  exact h3
theorem Half_W (M A : Nat) (hM : 0 < M) (hM2 : M < 1000000 ^ 700) (hA2 : A < 1000000 ^ 700) (u v : Value) (w : World) (hu : RatioAt w u (lowN M (A : Int)) (lowD M (A : Int))) (hv : RatioAt w v ((2 : Nat) : Int) 1) :
    Calls Tryz.prog 22 #[u, v] w fun e w' => ∃ r, e = .returned r ∧ RatioAt w' r (lowN (M * 2) (A : Int)) (lowD (M * 2) (A : Int)) ∧ Below w.heap.size w w' := by
  have ru := low_bigW hM hA2 hM2
  have h3 := Over_ratio u v _ 2 _ 1 700 w hu hv (lowD_pos hM _) (by decide) ru.1 two_room.1 ru.2 two_room.2 (by decide)
  have h4 := low_half hM (A : Int)
  rw [h4.1, h4.2] at h3
  exact h3
set_option maxRecDepth 100000 in
set_option maxHeartbeats 8000000 in
theorem WeightedOf_any (s : ByteArray) (d : Nat) (hd : d ≤ 4) (hs : s.size ≤ 24) (hb : BitsA s) : ∀ (m : Nat) (c : ByteArray) (w : World), c.size + m = d → Calls Tryz.prog 8 #[.string s, .int .i64 d, .string c] w fun e w' => ∃ v, e = .returned v ∧ RatioAt w' v (lowN (wg (rowZ s d) d s.size m c).2 ((wg (rowZ s d) d s.size m c).1 : Nat)) (lowD (wg (rowZ s d) d s.size m c).2 ((wg (rowZ s d) d s.size m c).1 : Nat)) ∧ Below w.heap.size w w' := by
  intro m
  induction m with
  | zero =>
    intro c w hc
    obtain ⟨W0, hW0⟩ : ∃ W0, W0 = w.alloc (.cells #[.bool false, .slice none 0 0, .slice none 0 0] 33) := ⟨_, rfl⟩
    have hb0 : Below w.heap.size w W0 := by rw [hW0]; exact (Below.refl _ _).alloc (Nat.le_refl _) _
    have HR0 : Hid (∀ W, Below W0.heap.size W0 W → RBox W w.heap.size false none 0 0 none 0 0 0 0) := fun W hb => by
      have h : RBox W0 w.heap.size false none 0 0 none 0 0 0 0 := by rw [hW0]; exact RBox.fresh (w := w) ⟨_, _, rfl, big_none w, big_none w⟩
      exact h.later hb
    have HB0 := Hid.mk' hb0
    have HSZ := Hid.mk' (rowZ_size s d)
    have hdI : (d : Int) ≤ 4 := by omega
    have hcI : (c.size : Int) ≤ (d : Int) := by omega
    have hc0 : (0 : Int) ≤ (c.size : Int) := by omega
    have hsI : (s.size : Int) ≤ 24 := by omega
    clear hb0
    go_enter Tryz.func8, Tryz.ntmps8
    go_upto_region 1 with fail
    rw [← hW0]
    clear hW0
    go_wp2_with fail
    go_loop [7, 8] (fun r i => ∃ k : Nat, k ≤ d ∧ i = .int .i64 k ∧ r = .string (rowZ s k)) (fun _ i => d - (intOf i).toNat)
    case atStart => exact ⟨0, Nat.zero_le _, rfl, rfl⟩
    case round =>
      obtain ⟨k, hk, rfl, rfl⟩ := hrel
      have hk0 : (0 : Int) ≤ (k : Int) := by omega
      rcases Nat.lt_or_ge k d with h1 | h1
      · have hkI : (k : Int) < (d : Int) := by omega
        have HRS : Hid (rowZ s (k + 1) = ⟨#[48]⟩ ++ rowZ s k) := rfl
        have hq : (rowZ s k).size ≤ 100 := by rw [rowZ_size]; omega
        generalize rowZ s k = Q at *
        go_wp2_with fail
        exact ⟨⟨k + 1, h1, by go_num, by rw [HRS.out]⟩, by simp [intOf]; omega⟩
      · obtain rfl : d = k := by omega
        have hkI : ¬ (d : Int) < (d : Int) := by omega
        obtain ⟨R, hR⟩ : ∃ R, R = rowZ s d := ⟨_, rfl⟩
        have hRb : BitsA R := by rw [hR]; exact rowZ_bits hb d
        rw [← hR] at HSZ ⊢
        have HRE := Hid.mk' hR
        clear hR
        have hdR : d ≤ R.size := by have := HSZ.out; omega
        have hR28 : R.size ≤ 28 := by have := HSZ.out; omega
        have hdRI : (d : Int) ≤ (R.size : Int) := by omega
        have hR28I : (R.size : Int) ≤ 28 := by omega
        have HLE := Hid.mk' (fun X => LearntOf_any (bhd R d c s.size) X (by have := bhd_size R d c s.size; omega) (bhd_bits hRb d c _))
        have HLD := Hid.mk' (lnD_pos (bhd R d c s.size).size)
        go_wp2_with fail
        go_loop [9, 10] (fun r i => ∃ k : Nat, d + k ≤ R.size ∧ i = .int .i64 ((d : Int) + (k : Int)) ∧ r = .string (bhd R d c k)) (fun _ i => R.size - (intOf i).toNat)
        case atStart => exact ⟨0, by omega, by simp, rfl⟩
        case round =>
          obtain ⟨k, hk, rfl, rfl⟩ := hrel
          have hk0 : (0 : Int) ≤ (k : Int) := by omega
          rcases Nat.lt_or_ge (d + k) R.size with h2 | h2
          · have hkI : (d : Int) + (k : Int) < (R.size : Int) := by omega
            have hq := bhd_size R d c k
            by_cases hx : R.extract (d + k - c.size) (d + k) = c
            · have hxb : ((R.extract (d + k - c.size) (d + k)).toList == c.toList) = true := by rw [wtl]; exact decide_eq_true hx
              have HY := Hid.mk' (bhd_yes hx)
              clear hx
              go_wp2_with fail
              exact ⟨⟨k + 1, by omega, by go_num, by rw [HY.out]⟩, by simp [intOf]; omega⟩
            · have hxb : ((R.extract (d + k - c.size) (d + k)).toList == c.toList) = false := by rw [wtl]; exact decide_eq_false hx
              have HY := Hid.mk' (bhd_no hx)
              clear hx
              go_wp2_with fail
              exact ⟨⟨k + 1, by omega, by go_num, by rw [HY.out]⟩, by simp [intOf]; omega⟩
          · obtain rfl : k = s.size := by have := HSZ.out; omega
            have hkI : ¬ ((d : Int) + (s.size : Int) < (R.size : Int)) := by omega
            go_wp2_with fail
            refine (HLE.out _).mono ?_
            rintro e w3 ⟨v3, rfl, hv3, hb3⟩
            obtain ⟨s1, x1, l1, c1, x1', l1', c1', rfl⟩ := hv3.sl
            have HR1 := Hid.mk' (RBox.fresh hv3)
            have HC3 := Hid.mk' (below_chain hb3 (new_below w3 (.cells #[.bool s1, .slice x1 l1 c1, .slice x1' l1' c1'] 33)))
            clear hv3 hb3
            have hcb : ((c.size : Int) == (d : Int)) = true := by simp; omega
            have y0 := HR1.out.c0
            have y1 := HR1.out.c1
            have y2 := HR1.out.c2
            have hR := HR0.out _ HC3.out
            have z0 := hR.c0
            have z1 := hR.c1
            have z2 := hR.c2
            have f0 := hR.fz 0 (by decide)
            have f1 := hR.fz 1 (by decide)
            have f2 := hR.fz 2 (by decide)
            obtain ⟨⟨g0, g1⟩, ⟨g2, g3⟩, g4⟩ := put_three' (.bool s1) (.slice x1 l1 c1) (.slice x1' l1' c1') z0 z1 z2
            have HP := Hid.mk' (hR.put HR1.out.rat)
            have HBF := Hid.mk' (below_chain HB0.out HC3.out)
            clear hR
            unfold put3 at HP
            go_wp2_with fail
            refine bodyPost_ret (v := .agg #[.bool s1, .slice x1 l1 c1, .slice x1' l1' c1']) (by simp [results, Tryz.results8, go_sem, HP.out.c0, HP.out.c1, HP.out.c2]) rfl ⟨_, rfl, ?_, ?_⟩
            · have h := HP.out.rat
              rw [HRE.out] at h
              exact h
            exact (((HBF.out.setCell (Nat.le_refl _) _).setCell (Nat.le_refl _) _).setCell (Nat.le_refl _) _)
  | succ m ih =>
    intro c w hc
    obtain ⟨W0, hW0⟩ : ∃ W0, W0 = w.alloc (.cells #[.bool false, .slice none 0 0, .slice none 0 0] 33) := ⟨_, rfl⟩
    have hb0 : Below w.heap.size w W0 := by rw [hW0]; exact (Below.refl _ _).alloc (Nat.le_refl _) _
    have HR0 : Hid (∀ W, Below W0.heap.size W0 W → RBox W w.heap.size false none 0 0 none 0 0 0 0) := fun W hb => by
      have h : RBox W0 w.heap.size false none 0 0 none 0 0 0 0 := by rw [hW0]; exact RBox.fresh (w := w) ⟨_, _, rfl, big_none w, big_none w⟩
      exact h.later hb
    have HB0 := Hid.mk' hb0
    have HSZ := Hid.mk' (rowZ_size s d)
    have hdI : (d : Int) ≤ 4 := by omega
    have hcI : (c.size : Int) ≤ (d : Int) := by omega
    have hc0 : (0 : Int) ≤ (c.size : Int) := by omega
    have hsI : (s.size : Int) ≤ 24 := by omega
    have hx := wg_ok (rowZ s d) d s.size hs m (⟨#[48]⟩ ++ c)
    have hy := wg_ok (rowZ s d) d s.size hs m (⟨#[49]⟩ ++ c)
    have hm4 := wE_mono m (by omega)
    have hm5 : 50 ^ 24 * (wE m * wE m) * 2 ≤ wE 4 := wE_mono (m + 1) (by omega)
    have HX := Hid.mk' (And.intro hx.1 (And.intro (Nat.le_trans hx.2.1 (Nat.le_trans hx.2.2 hm4)) (Nat.le_trans hx.2.2 hm4)))
    have HY := Hid.mk' (And.intro hy.1 (And.intro (Nat.le_trans hy.2.1 (Nat.le_trans hy.2.2 hm4)) (Nat.le_trans hy.2.2 hm4)))
    have hpr : (wg (rowZ s d) d s.size m (⟨#[48]⟩ ++ c)).2 * (wg (rowZ s d) d s.size m (⟨#[49]⟩ ++ c)).2 ≤ wE 4 := by
      refine Nat.le_trans (Nat.mul_le_mul hx.2.2 hy.2.2) (Nat.le_trans ?_ hm5)
      have h5 : wE m * wE m ≤ 50 ^ 24 * (wE m * wE m) := Nat.le_mul_of_pos_left _ (by decide)
      omega
    have HPR := Hid.mk' hpr
    have HPN : Hid ((wg (rowZ s d) d s.size m (⟨#[48]⟩ ++ c)).1 * (wg (rowZ s d) d s.size m (⟨#[49]⟩ ++ c)).1 ≤ wE 4) := Nat.le_trans (Nat.mul_le_mul hx.2.1 hy.2.1) hpr
    have HI0 := Hid.mk' (fun X => ih (⟨#[48]⟩ ++ c) X (by rw [ByteArray.size_append]; show 1 + c.size + m = d; omega))
    have HI1 := Hid.mk' (fun X => ih (⟨#[49]⟩ ++ c) X (by rw [ByteArray.size_append]; show 1 + c.size + m = d; omega))
    have HWT := Hid.mk' (wg_ok (rowZ s d) d s.size hs (m + 1) c)
    have HWG : Hid (wg (rowZ s d) d s.size (m + 1) c = (lnN (bhd (rowZ s d) d c s.size) (bhd (rowZ s d) d c s.size).size * ((wg (rowZ s d) d s.size m (⟨#[48]⟩ ++ c)).2 * (wg (rowZ s d) d s.size m (⟨#[49]⟩ ++ c)).2) + (wg (rowZ s d) d s.size m (⟨#[48]⟩ ++ c)).1 * (wg (rowZ s d) d s.size m (⟨#[49]⟩ ++ c)).1 * lnD (bhd (rowZ s d) d c s.size).size, lnD (bhd (rowZ s d) d c s.size).size * ((wg (rowZ s d) d s.size m (⟨#[48]⟩ ++ c)).2 * (wg (rowZ s d) d s.size m (⟨#[49]⟩ ++ c)).2) * 2)) := rfl
    clear hx hy hm4 hm5 hpr ih
    generalize wg (rowZ s d) d s.size m (⟨#[48]⟩ ++ c) = P0 at *
    generalize wg (rowZ s d) d s.size m (⟨#[49]⟩ ++ c) = P1 at *
    have HLW : Hid (lnN (bhd (rowZ s d) d c s.size) (bhd (rowZ s d) d c s.size).size ≤ wE 4 ∧ lnD (bhd (rowZ s d) d c s.size).size ≤ wE 4) := by
      have h1 := wg_ok (rowZ s d) d s.size hs 0 c
      have h2 := wE_mono 0 (by decide)
      exact ⟨Nat.le_trans h1.2.1 (Nat.le_trans h1.2.2 h2), Nat.le_trans h1.2.2 h2⟩
    clear hb0
    go_enter Tryz.func8, Tryz.ntmps8
    go_upto_region 1 with fail
    rw [← hW0]
    clear hW0
    go_wp2_with fail
    go_loop [7, 8] (fun r i => ∃ k : Nat, k ≤ d ∧ i = .int .i64 k ∧ r = .string (rowZ s k)) (fun _ i => d - (intOf i).toNat)
    case atStart => exact ⟨0, Nat.zero_le _, rfl, rfl⟩
    case round =>
      obtain ⟨k, hk, rfl, rfl⟩ := hrel
      have hk0 : (0 : Int) ≤ (k : Int) := by omega
      rcases Nat.lt_or_ge k d with h1 | h1
      · have hkI : (k : Int) < (d : Int) := by omega
        have HRS : Hid (rowZ s (k + 1) = ⟨#[48]⟩ ++ rowZ s k) := rfl
        have hq : (rowZ s k).size ≤ 100 := by rw [rowZ_size]; omega
        generalize rowZ s k = Q at *
        go_wp2_with fail
        exact ⟨⟨k + 1, h1, by go_num, by rw [HRS.out]⟩, by simp [intOf]; omega⟩
      · obtain rfl : d = k := by omega
        have hkI : ¬ (d : Int) < (d : Int) := by omega
        obtain ⟨R, hR⟩ : ∃ R, R = rowZ s d := ⟨_, rfl⟩
        have hRb : BitsA R := by rw [hR]; exact rowZ_bits hb d
        rw [← hR] at HSZ HLW ⊢
        have HRE := Hid.mk' hR
        clear hR
        have hdR : d ≤ R.size := by have := HSZ.out; omega
        have hR28 : R.size ≤ 28 := by have := HSZ.out; omega
        have hdRI : (d : Int) ≤ (R.size : Int) := by omega
        have hR28I : (R.size : Int) ≤ 28 := by omega
        have HLE := Hid.mk' (fun X => LearntOf_any (bhd R d c s.size) X (by have := bhd_size R d c s.size; omega) (bhd_bits hRb d c _))
        have HLD := Hid.mk' (lnD_pos (bhd R d c s.size).size)
        go_wp2_with fail
        go_loop [9, 10] (fun r i => ∃ k : Nat, d + k ≤ R.size ∧ i = .int .i64 ((d : Int) + (k : Int)) ∧ r = .string (bhd R d c k)) (fun _ i => R.size - (intOf i).toNat)
        case atStart => exact ⟨0, by omega, by simp, rfl⟩
        case round =>
          obtain ⟨k, hk, rfl, rfl⟩ := hrel
          have hk0 : (0 : Int) ≤ (k : Int) := by omega
          rcases Nat.lt_or_ge (d + k) R.size with h2 | h2
          · have hkI : (d : Int) + (k : Int) < (R.size : Int) := by omega
            have hq := bhd_size R d c k
            by_cases hx : R.extract (d + k - c.size) (d + k) = c
            · have hxb : ((R.extract (d + k - c.size) (d + k)).toList == c.toList) = true := by rw [wtl]; exact decide_eq_true hx
              have HY := Hid.mk' (bhd_yes hx)
              clear hx
              go_wp2_with fail
              exact ⟨⟨k + 1, by omega, by go_num, by rw [HY.out]⟩, by simp [intOf]; omega⟩
            · have hxb : ((R.extract (d + k - c.size) (d + k)).toList == c.toList) = false := by rw [wtl]; exact decide_eq_false hx
              have HY := Hid.mk' (bhd_no hx)
              clear hx
              go_wp2_with fail
              exact ⟨⟨k + 1, by omega, by go_num, by rw [HY.out]⟩, by simp [intOf]; omega⟩
          · obtain rfl : k = s.size := by have := HSZ.out; omega
            have hkI : ¬ ((d : Int) + (s.size : Int) < (R.size : Int)) := by omega
            go_wp2_with fail
            refine (HLE.out _).mono ?_
            rintro e w3 ⟨v3, rfl, hv3, hb3⟩
            obtain ⟨s1, x1, l1, c1, x1', l1', c1', rfl⟩ := hv3.sl
            have HR1 := Hid.mk' (RBox.fresh hv3)
            have HC3 := Hid.mk' (below_chain hb3 (new_below w3 (.cells #[.bool s1, .slice x1 l1 c1, .slice x1' l1' c1'] 33)))
            clear hv3 hb3
            have hcb : ((c.size : Int) == (d : Int)) = false := by simp; omega
            have hcs : c.size ≤ 4 := by omega
            go_wp2_with fail
            generalize w3.alloc (.cells #[.bool s1, .slice x1 l1 c1, .slice x1' l1' c1'] 33) = W3 at *
            generalize w3.heap.size = B3 at *
            refine (HI0.out _).mono ?_
            rintro e w4 ⟨v4, rfl, hv4, hb4⟩
            have HV4 := Hid.mk' hv4
            have HC4 := Hid.mk' (below_chain HC3.out hb4)
            have HR4 := Hid.mk' (HR1.out.later hb4)
            obtain ⟨t4, p4, m4, q4, p4', m4', q4', rfl⟩ := hv4.sl
            clear hv4 hb4
            go_wp2_with fail
            refine (HI1.out _).mono ?_
            rintro e w5 ⟨v5, rfl, hv5, hb5⟩
            have HV5 := Hid.mk' hv5
            have HV4b := Hid.mk' (HV4.out.later hb5)
            have HC5 := Hid.mk' (below_chain HC4.out hb5)
            have HR5 := Hid.mk' (HR4.out.later hb5)
            obtain ⟨t5, p5, m5, q5, p5', m5', q5', rfl⟩ := hv5.sl
            clear hv5 hb5
            go_wp2_with fail
            refine (Times_W P0.2 P1.2 P0.1 P1.1 HX.out.1 HY.out.1 (wE_room (wE_le1 HX.out.2.2)).2 (wE_room (wE_le1 HY.out.2.2)).2 (wE_room (wE_le1 HX.out.2.1)).2 (wE_room (wE_le1 HY.out.2.1)).2 _ _ _ HV4b.out HV5.out).mono ?_
            rintro e w6 ⟨v6, rfl, hv6, hb6⟩
            obtain ⟨t6, p6, m6, q6, p6', m6', q6', rfl⟩ := hv6.sl
            have HR6 := Hid.mk' (RBox.fresh hv6)
            have HC6 := Hid.mk' (below_chain (below_chain HC5.out hb6) (new_below w6 (.cells #[.bool t6, .slice p6 m6 q6, .slice p6' m6' q6'] 33)))
            have HR7 := Hid.mk' ((HR5.out.later hb6).later (new_below w6 (.cells #[.bool t6, .slice p6 m6 q6, .slice p6' m6' q6'] 33)))
            clear hv6 hb6
            have y0 := HR7.out.c0
            have y1 := HR7.out.c1
            have y2 := HR7.out.c2
            have k0 := HR6.out.c0
            have k1 := HR6.out.c1
            have k2 := HR6.out.c2
            go_wp2_with fail
            generalize w6.alloc (.cells #[.bool t6, .slice p6 m6 q6, .slice p6' m6' q6'] 33) = W6 at *
            generalize w6.heap.size = B6 at *
            refine (Plus_W (lnD (bhd R d c s.size).size) (P0.2 * P1.2) (lnN (bhd R d c s.size) (bhd R d c s.size).size) (P0.1 * P1.1) HLD.out (Nat.mul_pos HX.out.1 HY.out.1) (wE_room (wE_le1 HLW.out.2)).2 (wE_room (wE_le1 HPR.out)).2 (wE_room (wE_le1 HLW.out.1)).2 (wE_room (wE_le1 HPN.out)).2 _ _ _ HR7.out.rat HR6.out.rat).mono ?_
            rintro e w7 ⟨v7, rfl, hv7, hb7⟩
            have HV7 := Hid.mk' hv7
            have HC7 := Hid.mk' (below_chain HC6.out hb7)
            obtain ⟨t7, p7, m7, q7, p7', m7', q7', rfl⟩ := hv7.sl
            clear hv7 hb7 y0 y1 y2 k0 k1 k2
            go_wp2_with fail
            refine (RatioOf_any 2 1 _ (by decide) (by decide) (by decide) (by decide)).mono ?_
            rintro e w8 ⟨v8, rfl, hv8, hb8⟩
            have HV8 : Hid (RatioAt w8 v8 ((2 : Nat) : Int) 1) := hv8
            have HV7b := Hid.mk' (HV7.out.later hb8)
            have HC8 := Hid.mk' (below_chain HC7.out hb8)
            obtain ⟨t8, p8, m8, q8, p8', m8', q8', rfl⟩ := hv8.sl
            clear hv8 hb8
            go_wp2_with fail
            refine (Half_W (lnD (bhd R d c s.size).size * (P0.2 * P1.2)) _ (Nat.mul_pos HLD.out (Nat.mul_pos HX.out.1 HY.out.1)) (wE_room (wE_le2 HLW.out.2 HPR.out)).2 (wE_room (by
              have h1 := HWT.out.2.1
              have h2 := HWT.out.2.2
              rw [HWG.out, ← HRE.out] at h1 h2
              exact wE_le1 (Nat.le_trans h1 (Nat.le_trans h2 (wE_mono (m + 1) (by omega)))))).2 _ _ _ HV7b.out HV8.out).mono ?_
            rintro e w9 ⟨v9, rfl, hv9, hb9⟩
            have HV9 := Hid.mk' hv9
            have HC9 := Hid.mk' (below_chain HC8.out hb9)
            obtain ⟨t9, p9, m9, q9, p9', m9', q9', rfl⟩ := hv9.sl
            clear hv9 hb9
            have hR := HR0.out _ HC9.out
            have z0 := hR.c0
            have z1 := hR.c1
            have z2 := hR.c2
            have f0 := hR.fz 0 (by decide)
            have f1 := hR.fz 1 (by decide)
            have f2 := hR.fz 2 (by decide)
            obtain ⟨⟨g0, g1⟩, ⟨g2, g3⟩, g4⟩ := put_three' (.bool t9) (.slice p9 m9 q9) (.slice p9' m9' q9') z0 z1 z2
            have HP := Hid.mk' (hR.put HV9.out)
            have HBF := Hid.mk' (below_chain HB0.out HC9.out)
            clear hR
            unfold put3 at HP
            go_wp2_with fail
            refine bodyPost_ret (v := .agg #[.bool t9, .slice p9 m9 q9, .slice p9' m9' q9']) (by simp [results, Tryz.results8, go_sem, HP.out.c0, HP.out.c1, HP.out.c2]) rfl ⟨_, rfl, ?_, ?_⟩
            · have h := HP.out.rat
              rw [HRE.out] at h
              rw [HWG.out]
              exact h
            exact (((HBF.out.setCell (Nat.le_refl _) _).setCell (Nat.le_refl _) _).setCell (Nat.le_refl _) _)
end Go.Proofs.YtkglaiigoogapaaGreatDoor

/- All texts of n bits: the chances together. -/
namespace Go.Proofs.YtkglaiigoogapaaGreatDoor

/-- The text of a number's lowest n bits, the lowest first. -/
def txK (k : Nat) : Nat → ByteArray
  | 0 => ⟨#[]⟩
  | i + 1 => txK k i ++ (if k / 2 ^ i % 2 = 0 then ⟨#[48]⟩ else ⟨#[49]⟩)
theorem txK_size (k : Nat) : ∀ i, (txK k i).size = i
  | 0 => rfl
  | i + 1 => by
    show (txK k i ++ _).size = _
    rw [ByteArray.size_append, txK_size k i]
    split <;> rfl
theorem txK_bits (k : Nat) : ∀ i, BitsA (txK k i)
  | 0 => BitsA.none
  | i + 1 => by
    show BitsA (txK k i ++ _)
    refine (txK_bits k i).append ?_
    split
    · exact bits_one48
    · exact bits_one49
def toldB (x : Nat × Nat) : Bool := decide (x.1 / Nat.gcd x.1 x.2 ≤ 4611686018427387904 ∧ x.2 / Nat.gcd x.1 x.2 ≤ 4611686018427387904)
def redP (x : Nat × Nat) : Nat × Nat := (x.1 / Nat.gcd x.1 x.2, x.2 / Nat.gcd x.1 x.2)
def stepQ (x y : Nat × Nat) : Nat × Nat := (x.1 * y.2 + y.1 * x.2, x.2 * y.2)
/-- The sum of the first ones, where each can be told. -/
def sumO (f : Nat → Nat × Nat) : Nat → Option (Nat × Nat)
  | 0 => some (0, 1)
  | k + 1 => match sumO f k with
    | none => none
    | some x => if toldB (f k) = true then some (stepQ x (redP (f k))) else none
def sumQ (f : Nat → Nat × Nat) : Nat → Nat × Nat
  | 0 => (0, 1)
  | k + 1 => stepQ (sumQ f k) (redP (f k))
theorem sumO_some {f : Nat → Nat × Nat} : ∀ {k : Nat} {x : Nat × Nat}, sumO f k = some x → (∀ j, j < k → toldB (f j) = true) ∧ sumQ f k = x
  | 0, x, h => ⟨fun j hj => absurd hj (Nat.not_lt_zero _), by simpa [sumO, sumQ] using h⟩
  | k + 1, x, h => by
    simp only [sumO] at h
    cases hs : sumO f k with
    | none => rw [hs] at h; cases h
    | some y =>
      rw [hs] at h
      dsimp only at h
      by_cases ht : toldB (f k) = true
      · rw [if_pos ht] at h
        obtain ⟨h1, h2⟩ := sumO_some hs
        refine ⟨fun j hj => ?_, ?_⟩
        · rcases Nat.lt_or_ge j k with h3 | h3
          · exact h1 j h3
          · rw [show j = k by omega]; exact ht
        · show stepQ (sumQ f k) (redP (f k)) = x
          rw [h2]; exact Option.some.inj h
      · rw [if_neg ht] at h; cases h
def allOne (f : Nat → Nat × Nat) (m : Nat) : Bool := match sumO f m with
  | some x => decide (x.1 = x.2)
  | none => false
theorem allOne_sum {f : Nat → Nat × Nat} {m : Nat} (h : allOne f m = true) : (∀ j, j < m → toldB (f j) = true) ∧ (sumQ f m).1 = (sumQ f m).2 := by
  unfold allOne at h
  cases hs : sumO f m with
  | none => rw [hs] at h; cases h
  | some x =>
    rw [hs] at h
    obtain ⟨h1, h2⟩ := sumO_some hs
    exact ⟨h1, by rw [h2]; exact of_decide_eq_true h⟩
def chK (n k : Nat) : Nat × Nat := (lnN (txK k n) (txK k n).size, lnD (txK k n).size)
def wgK (n d k : Nat) : Nat × Nat := wg (rowZ (txK k n) d) d (txK k n).size d ⟨#[]⟩
theorem chK_all : ∀ n, n < 8 → allOne (chK n) (2 ^ n) = true := by decide +kernel
theorem wgK_all0 : ∀ n, n < 8 → allOne (wgK n 0) (2 ^ n) = true := by decide +kernel
theorem wgK_all1 : ∀ n, n < 8 → allOne (wgK n 1) (2 ^ n) = true := by decide +kernel
theorem wgK_all2 : ∀ n, n < 8 → allOne (wgK n 2) (2 ^ n) = true := by decide +kernel
theorem wgK_all {n d : Nat} (hn : n < 8) (hd : d < 3) : allOne (wgK n d) (2 ^ n) = true := by
  rcases (show d = 0 ∨ d = 1 ∨ d = 2 by omega) with rfl | rfl | rfl
  · exact wgK_all0 n hn
  · exact wgK_all1 n hn
  · exact wgK_all2 n hn
/-- Room: what is told is at most 2 to the power of 62. -/
theorem redP_room {x : Nat × Nat} (h : toldB x = true) : (redP x).1 ≤ 4611686018427387904 ∧ (redP x).2 ≤ 4611686018427387904 := of_decide_eq_true h
end Go.Proofs.YtkglaiigoogapaaGreatDoor

/- The document's order of fractions. -/
namespace Go.Proofs.YtkglaiigoogapaaGreatDoor
open Go.RowKit

/-- The sign of a difference. -/
def sgnZ (z : Int) : Int := if z = 0 then 0 else if z < 0 then -1 else 1
set_option maxRecDepth 100000 in
set_option maxHeartbeats 4000000 in
theorem SignedCmp_any (v1 v2 : Value) (x y : Int) (k : Nat) (w : World) (h1 : SignedAt w v1 x) (h2 : SignedAt w v2 y) (hx : x.natAbs < 1000000 ^ k) (hy : y.natAbs < 1000000 ^ k) (hk : k ≤ 1000000) :
    Calls Tryz.prog 39 #[v1, v2] w fun e w' => e = .returned (.int .i64 (sgnZ (x - y))) ∧ Below w.heap.size w w' := by
  obtain ⟨u1, rfl, hu1⟩ := h1
  obtain ⟨u2, rfl, hu2⟩ := h2
  obtain ⟨ad1, l1, cap1, rfl, _⟩ := hu1.len
  obtain ⟨ad2, l2, cap2, rfl, _⟩ := hu2.len
  obtain ⟨s1, hs1⟩ : ∃ s, decide (x < 0) = s := ⟨_, rfl⟩
  obtain ⟨s2, hs2⟩ : ∃ s, decide (y < 0) = s := ⟨_, rfl⟩
  rw [hs1, hs2]
  obtain ⟨W0, hW0⟩ : ∃ W0, (w.alloc (.cells #[.bool s1, .slice ad1 l1 cap1] 31)).alloc (.cells #[.bool s2, .slice ad2 l2 cap2] 31) = W0 := ⟨_, rfl⟩
  have hB0 : Below w.heap.size w W0 := by rw [← hW0]; exact below_chain (new_below _ _) (new_below _ _)
  have HKS : Hid (∀ W, Below W0.heap.size W0 W → (W.cell? ⟨w.heap.size, 0, none⟩ = some (.bool s1) ∧ W.cell? ⟨w.heap.size, 1, none⟩ = some (.slice ad1 l1 cap1)) ∧ (W.cell? ⟨w.heap.size + 1, 0, none⟩ = some (.bool s2) ∧ W.cell? ⟨w.heap.size + 1, 1, none⟩ = some (.slice ad2 l2 cap2))) := fun W hb => by
    have a : ∀ j v, (#[Value.bool s1, .slice ad1 l1 cap1] : Array Value)[j]? = some v → W0.cell? ⟨w.heap.size, j, none⟩ = some v := fun j v h => by rw [← hW0, World.cell?_alloc_lt _ _ ⟨w.heap.size, j, none⟩ (by simp), World.cell?_alloc_at _ _ _ _ rfl]; exact h
    have b : ∀ j v, (#[Value.bool s2, .slice ad2 l2 cap2] : Array Value)[j]? = some v → W0.cell? ⟨w.heap.size + 1, j, none⟩ = some v := fun j v h => by rw [← hW0, World.cell?_alloc_at _ _ _ _ (by simp)]; exact h
    exact ⟨⟨by rw [hb.cell (cell_lt (a 0 _ rfl))]; exact a 0 _ rfl, by rw [hb.cell (cell_lt (a 1 _ rfl))]; exact a 1 _ rfl⟩, by rw [hb.cell (cell_lt (b 0 _ rfl))]; exact b 0 _ rfl, by rw [hb.cell (cell_lt (b 1 _ rfl))]; exact b 1 _ rfl⟩
  have HS1 : Hid (∀ W, Below W0.heap.size W0 W → SignedAt W (.agg #[.bool s1, .slice ad1 l1 cap1]) x) := fun W hb => ⟨_, by rw [hs1], (hu1.later hB0).later hb⟩
  have HS2 : Hid (∀ W, Below W0.heap.size W0 W → SignedAt W (.agg #[.bool s2, .slice ad2 l2 cap2]) y) := fun W hb => ⟨_, by rw [hs2], (hu2.later hB0).later hb⟩
  have HW := Hid.mk' hW0
  have HB := Hid.mk' hB0
  have hcur0 : Below W0.heap.size W0 W0 := Below.refl _ _
  have hcur : Below W0.heap.size W0 W0.drew := (Below.refl _ _).drew
  have hcurA : ∀ X, Below W0.heap.size W0 (W0.alloc X).drew := fun X => (new_below _ _).drew
  have HHY : Hid ((-y).natAbs < 1000000 ^ k) := by show _ < _; rw [Int.natAbs_neg]; exact hy
  clear hs1 hs2 hu1 hu2 hB0 hW0
  generalize hz : x + -y = z at *
  have HZ := Hid.mk' hz
  have HZ2 : Hid (sgnZ (x - y) = sgnZ z) := by show _ = _; rw [← hz, Int.sub_eq_add_neg]
  clear hz
  go_enter Tryz.func39, Tryz.ntmps39
  go_wp2_with fail
  rw [HW.out]
  go_cut [5] from 6 (fun s wx => ∃ Bs : Nat, s = .pointer (some ⟨Bs, 0, none⟩) ∧ Hid (SignBox W0 wx Bs z))
  case first =>
    go_region_held3 (fun W => (W.cell? ⟨w.heap.size, 0, none⟩ = some (.bool s1) ∧ W.cell? ⟨w.heap.size, 1, none⟩ = some (.slice ad1 l1 cap1)) ∧ (W.cell? ⟨w.heap.size + 1, 0, none⟩ = some (.bool s2) ∧ W.cell? ⟨w.heap.size + 1, 1, none⟩ = some (.slice ad2 l2 cap2)))
      (first | exact HKS.out _ hcur0 | exact HKS.out _ hcur | exact HKS.out _ (hcurA _) | (refine HKS.out _ ?_; assumption) | (refine HKS.out _ (more_below ?_ _); assumption) | (refine HKS.out _ (setB_below ?_ NB.hB _ _); assumption))
      (first
        | (go_at_call 35; refine (SignedAdd_any _ _ x (-y) k _ (HS1.out _ ?_) (HX1.out _ ?_) hx HHY.out hk).mono ?_; (first | exact hbw1 | exact more_below hbw1 _); (first | exact Below.refl _ _ | exact new_below _ _); rintro e w5 ⟨sv5, rfl, ⟨x5, rfl, hx5⟩, hb5⟩; rw [HZ.out] at hx5 ⊢; obtain ⟨ad7, l7, cap7, rfl, _⟩ := hx5.len; (first | (have hbw5 := below_chain hbw1 hb5; try have NB := NB.later hb5) | (have hbw5 := below_chain (more_below hbw1 _) hb5; have NB := newBox_of hbw1 hb5)); (try (have y0 := NB.c0; have y1 := NB.c1; have y2 := NB.f0; have y3 := NB.f1)); have HX5 := Hid.mk' hx5; clear hx5 hb5)
        | (go_at_call 33; refine (SignedBack_any _ y _ (HS2.out _ ?_)).mono ?_; (first | exact hcur | exact hcurA _); rintro e w1 ⟨sv1, rfl, ⟨x1, rfl, hx1⟩, hb1⟩; obtain ⟨sg1, hsg1⟩ : ∃ sg, decide (-y < 0) = sg := ⟨_, rfl⟩; rw [hsg1]; obtain ⟨ad3, l3, cap3, rfl, _⟩ := hx1.len; (first | have hbw1 := below_chain hcur hb1 | (have hbw1 := below_chain (hcurA _) hb1; have NB := newBox_of hcur0 (below_chain ((Below.refl _ _).drew) hb1))); have HX1 : Hid (∀ W, Below w1.heap.size w1 W → SignedAt W (.agg #[.bool sg1, .slice ad3 l3 cap3]) (-y)) := (fun W hb => ⟨_, by rw [hsg1], hx1.later hb⟩); clear hx1 hb1 hsg1))
    all_goals
      go_wp2_with fail
      go_meet
      first | exact ⟨_, rfl, signBox_late hbw5 HX5.out⟩ | exact ⟨_, rfl, signBox_soon hbw5 HX5.out NB⟩
  case rest =>
  obtain ⟨Bs, rfl, HSB⟩ := hcut
  obtain ⟨u, x0, x1, hu⟩ := HSB.out.box
  obtain ⟨ad, l, cap, rfl, hlz⟩ := hu.len
  have HBF := Hid.mk' (below_chain HB.out HSB.out.below)
  by_cases hz0 : z = 0
  · have hl0 : l = 0 := hlz.2 (by rw [hz0]; rfl)
    subst hl0
    have HE : Hid (sgnZ z = 0) := if_pos hz0
    clear hlz hz0 hu
    go_wp2_with fail
    go_ret
    exact ⟨by rw [HZ2.out, HE.out]; rfl, HBF.out⟩
  · have hl0 : ((l : Int) == 0) = false := by
      have : l ≠ 0 := fun h => hz0 (Int.natAbs_eq_zero.1 (hlz.1 h))
      simp; exact this
    obtain ⟨sg, hsg⟩ : ∃ sg, decide (z < 0) = sg := ⟨_, rfl⟩
    rw [hsg] at x0
    have HE : Hid (sgnZ z = if sg = true then -1 else 1) := by
      show (if z = 0 then 0 else if z < 0 then -1 else 1) = _
      rw [if_neg hz0, ← hsg]
      by_cases h : z < 0
      · rw [if_pos h, decide_eq_true h, if_pos rfl]
      · rw [if_neg h, decide_eq_false h]; rfl
    clear hlz hz0 hu hsg
    cases sg with
    | true =>
      go_wp2_with fail
      go_ret
      exact ⟨by rw [HZ2.out, HE.out]; rfl, HBF.out⟩
    | false =>
      go_wp2_with fail
      go_ret
      exact ⟨by rw [HZ2.out, HE.out]; rfl, HBF.out⟩
set_option maxRecDepth 100000 in
set_option maxHeartbeats 4000000 in
theorem RCmp_any (v1 v2 : Value) (n1 n2 : Int) (d1 d2 k : Nat) (w : World) (h1 : RatioAt w v1 n1 d1) (h2 : RatioAt w v2 n2 d2) (hn1 : n1.natAbs < 1000000 ^ k) (hn2 : n2.natAbs < 1000000 ^ k) (hk1 : d1 < 1000000 ^ k) (hk2 : d2 < 1000000 ^ k) (hk : k + k ≤ 1000000) :
    Calls Tryz.prog 16 #[v1, v2] w fun e w' => e = .returned (.int .i64 (sgnZ (n1 * d2 - n2 * d1))) ∧ Below w.heap.size w w' := by
  obtain ⟨u1, q1, rfl, hu1, hq1⟩ := h1
  obtain ⟨u2, q2, rfl, hu2, hq2⟩ := h2
  obtain ⟨ad1, l1, cap1, rfl, _⟩ := hu1.len
  obtain ⟨bd1, m1, bap1, rfl, _⟩ := hq1.len
  obtain ⟨ad2, l2, cap2, rfl, _⟩ := hu2.len
  obtain ⟨bd2, m2, bap2, rfl, _⟩ := hq2.len
  obtain ⟨s1, hs1⟩ : ∃ s, decide (n1 < 0) = s := ⟨_, rfl⟩
  obtain ⟨s2, hs2⟩ : ∃ s, decide (n2 < 0) = s := ⟨_, rfl⟩
  rw [hs1, hs2]
  obtain ⟨W0, hW0⟩ : ∃ W0, (w.alloc (.cells #[.bool s1, .slice ad1 l1 cap1, .slice bd1 m1 bap1] 33)).alloc (.cells #[.bool s2, .slice ad2 l2 cap2, .slice bd2 m2 bap2] 33) = W0 := ⟨_, rfl⟩
  have hB0 : Below w.heap.size w W0 := by rw [← hW0]; exact below_chain (new_below _ _) (new_below _ _)
  have HKS : Hid (∀ W, Below W0.heap.size W0 W → (W.cell? ⟨w.heap.size, 0, none⟩ = some (.bool s1) ∧ W.cell? ⟨w.heap.size, 1, none⟩ = some (.slice ad1 l1 cap1) ∧ W.cell? ⟨w.heap.size, 2, none⟩ = some (.slice bd1 m1 bap1)) ∧ (W.cell? ⟨w.heap.size + 1, 0, none⟩ = some (.bool s2) ∧ W.cell? ⟨w.heap.size + 1, 1, none⟩ = some (.slice ad2 l2 cap2) ∧ W.cell? ⟨w.heap.size + 1, 2, none⟩ = some (.slice bd2 m2 bap2))) := fun W hb => by
    have a : ∀ j v, (#[Value.bool s1, .slice ad1 l1 cap1, .slice bd1 m1 bap1] : Array Value)[j]? = some v → W0.cell? ⟨w.heap.size, j, none⟩ = some v := fun j v h => by rw [← hW0, World.cell?_alloc_lt _ _ ⟨w.heap.size, j, none⟩ (by simp), World.cell?_alloc_at _ _ _ _ rfl]; exact h
    have b : ∀ j v, (#[Value.bool s2, .slice ad2 l2 cap2, .slice bd2 m2 bap2] : Array Value)[j]? = some v → W0.cell? ⟨w.heap.size + 1, j, none⟩ = some v := fun j v h => by rw [← hW0, World.cell?_alloc_at _ _ _ _ (by simp)]; exact h
    exact ⟨⟨by rw [hb.cell (cell_lt (a 0 _ rfl))]; exact a 0 _ rfl, by rw [hb.cell (cell_lt (a 1 _ rfl))]; exact a 1 _ rfl, by rw [hb.cell (cell_lt (a 2 _ rfl))]; exact a 2 _ rfl⟩, by rw [hb.cell (cell_lt (b 0 _ rfl))]; exact b 0 _ rfl, by rw [hb.cell (cell_lt (b 1 _ rfl))]; exact b 1 _ rfl, by rw [hb.cell (cell_lt (b 2 _ rfl))]; exact b 2 _ rfl⟩
  have HS1 : Hid (∀ W, Below W0.heap.size W0 W → SignedAt W (.agg #[.bool s1, .slice ad1 l1 cap1]) n1) := fun W hb => ⟨_, by rw [hs1], (hu1.later hB0).later hb⟩
  have HS2 : Hid (∀ W, Below W0.heap.size W0 W → SignedAt W (.agg #[.bool s2, .slice ad2 l2 cap2]) n2) := fun W hb => ⟨_, by rw [hs2], (hu2.later hB0).later hb⟩
  have HD1 : Hid (∀ W, Below W0.heap.size W0 W → BigAt W (.slice bd1 m1 bap1) d1) := fun W hb => (hq1.later hB0).later hb
  have HD2 : Hid (∀ W, Below W0.heap.size W0 W → BigAt W (.slice bd2 m2 bap2) d2) := fun W hb => (hq2.later hB0).later hb
  have hm1 : (n1 * (d2 : Int)).natAbs < 1000000 ^ (k + k) := by rw [Int.natAbs_mul, Int.natAbs_natCast, Nat.pow_add]; exact Nat.mul_lt_mul'' hn1 hk2
  have hm2 : (n2 * (d1 : Int)).natAbs < 1000000 ^ (k + k) := by rw [Int.natAbs_mul, Int.natAbs_natCast, Nat.pow_add]; exact Nat.mul_lt_mul'' hn2 hk1
  have HM := Hid.mk' (And.intro hm1 hm2)
  have HBD : Hid (n1.natAbs < 1000000 ^ k ∧ (d2 : Int).natAbs < 1000000 ^ k ∧ n2.natAbs < 1000000 ^ k ∧ (d1 : Int).natAbs < 1000000 ^ k) := ⟨hn1, by rw [Int.natAbs_natCast]; exact hk2, hn2, by rw [Int.natAbs_natCast]; exact hk1⟩
  have HW := Hid.mk' hW0
  have HB := Hid.mk' hB0
  have hcur0 : Below W0.heap.size W0 W0 := Below.refl _ _
  have hcur : Below W0.heap.size W0 W0.drew := (Below.refl _ _).drew
  have hdn1 : ¬ (d1 : Int) < 0 := by omega
  have hdn2 : ¬ (d2 : Int) < 0 := by omega
  have HDE : Hid (decide ((d1 : Int) < 0) = false ∧ decide ((d2 : Int) < 0) = false) := ⟨decide_eq_false hdn1, decide_eq_false hdn2⟩
  clear hs1 hs2 hu1 hu2 hq1 hq2 hB0 hW0 hn1 hn2 hk1 hk2 hm1 hm2 hdn1 hdn2
  go_enter Tryz.func16, Tryz.ntmps16
  go_wp2_with fail
  rw [HW.out]
  go_region_held3 (fun W => (W.cell? ⟨w.heap.size, 0, none⟩ = some (.bool s1) ∧ W.cell? ⟨w.heap.size, 1, none⟩ = some (.slice ad1 l1 cap1) ∧ W.cell? ⟨w.heap.size, 2, none⟩ = some (.slice bd1 m1 bap1)) ∧ (W.cell? ⟨w.heap.size + 1, 0, none⟩ = some (.bool s2) ∧ W.cell? ⟨w.heap.size + 1, 1, none⟩ = some (.slice ad2 l2 cap2) ∧ W.cell? ⟨w.heap.size + 1, 2, none⟩ = some (.slice bd2 m2 bap2)))
    (first | exact HKS.out _ hcur0 | exact HKS.out _ hcur | (refine HKS.out _ ?_; assumption))
    (first
      | (go_at_call 39; refine (SignedCmp_any _ _ (n1 * (d2 : Int)) (n2 * (d1 : Int)) (k + k) _ (HX2.out _ h24) (HX4.out _ (Below.refl _ _)) HM.out.1 HM.out.2 hk).mono ?_; rintro e w5 ⟨rfl, hb5⟩; have hbw5 := below_chain hbw4 hb5; clear hb5)
      | (go_at_call 36; refine (SignedMul_any _ _ n2 (d1 : Int) k _ (HS2.out _ hbw3) (HX3.out _ (Below.refl _ _)) HBD.out.2.2.1 HBD.out.2.2.2 (by omega)).mono ?_; rintro e w4 ⟨sv4, rfl, ⟨x4, rfl, hx4⟩, hb4⟩; obtain ⟨sg4, hsg4⟩ : ∃ sg, decide (n2 * (d1 : Int) < 0) = sg := ⟨_, rfl⟩; rw [hsg4]; obtain ⟨ad6, l6, cap6, rfl, _⟩ := hx4.len; have hbw4 := below_chain hbw3 hb4; have h24 := below_chain h23 hb4; have HX4 : Hid (∀ W, Below w4.heap.size w4 W → SignedAt W (.agg #[.bool sg4, .slice ad6 l6 cap6]) (n2 * (d1 : Int))) := (fun W hb => ⟨_, by rw [hsg4], hx4.later hb⟩); clear hx4 hb4 hsg4)
      | (go_at_call 37; refine (wide_any (.slice bd1 m1 bap1) d1 _ (HD1.out _ hbw2)).mono ?_; rintro e w3 ⟨sv3, rfl, ⟨x3, rfl, hx3⟩, hb3⟩; rw [HDE.out.1]; obtain ⟨ad5, l5, cap5, rfl, _⟩ := hx3.len; have hbw3 := below_chain hbw2 hb3; have h23 := below_chain (Below.refl _ w2) hb3; have HX3 : Hid (∀ W, Below w3.heap.size w3 W → SignedAt W (.agg #[.bool false, .slice ad5 l5 cap5]) (d1 : Int)) := (fun W hb => ⟨_, by rw [HDE.out.1], hx3.later hb⟩); clear hx3 hb3)
      | (go_at_call 36; refine (SignedMul_any _ _ n1 (d2 : Int) k _ (HS1.out _ hbw1) (HX1.out _ (Below.refl _ _)) HBD.out.1 HBD.out.2.1 (by omega)).mono ?_; rintro e w2 ⟨sv2, rfl, ⟨x2, rfl, hx2⟩, hb2⟩; obtain ⟨sg2, hsg2⟩ : ∃ sg, decide (n1 * (d2 : Int) < 0) = sg := ⟨_, rfl⟩; rw [hsg2]; obtain ⟨ad4, l4, cap4, rfl, _⟩ := hx2.len; have hbw2 := below_chain hbw1 hb2; have HX2 : Hid (∀ W, Below w2.heap.size w2 W → SignedAt W (.agg #[.bool sg2, .slice ad4 l4 cap4]) (n1 * (d2 : Int))) := (fun W hb => ⟨_, by rw [hsg2], hx2.later hb⟩); clear hx2 hb2 hsg2)
      | (go_at_call 37; refine (wide_any (.slice bd2 m2 bap2) d2 _ (HD2.out _ hcur)).mono ?_; rintro e w1 ⟨sv1, rfl, ⟨x1, rfl, hx1⟩, hb1⟩; rw [HDE.out.2]; obtain ⟨ad3, l3, cap3, rfl, _⟩ := hx1.len; have hbw1 := below_chain hcur hb1; have HX1 : Hid (∀ W, Below w1.heap.size w1 W → SignedAt W (.agg #[.bool false, .slice ad3 l3 cap3]) (d2 : Int)) := (fun W hb => ⟨_, by rw [HDE.out.2], hx1.later hb⟩); clear hx1 hb1))
  go_wp2_with fail
  go_ret
  exact ⟨rfl, below_chain HB.out hbw5⟩
/-- Which of two fractions is the less. -/
theorem sgnZ_neg (z : Int) : sgnZ z < 0 ↔ z < 0 := by
  unfold sgnZ
  split
  · omega
  · split <;> omega
end Go.Proofs.YtkglaiigoogapaaGreatDoor

/- Fractions in boxes, and as the document's. -/
namespace Go.Proofs.YtkglaiigoogapaaGreatDoor
open Go.RowKit

/-- A fraction in a box. -/
structure FrAt (w : World) (b : Nat) (p q : Int) : Prop where
  c0 : w.cell? ⟨b, 0, none⟩ = some (.int .i64 p)
  c1 : w.cell? ⟨b, 1, none⟩ = some (.int .i64 q)
  f0 : w.frozen? ⟨b, 0, none⟩ = false
  f1 : w.frozen? ⟨b, 1, none⟩ = false
theorem FrAt.later {w w' : World} {b : Nat} {p q : Int} (h : FrAt w b p q) (hb : Below w.heap.size w w') : FrAt w' b p q :=
  ⟨by rw [hb.cell (cell_lt h.c0)]; exact h.c0, by rw [hb.cell (cell_lt h.c1)]; exact h.c1, by rw [hb.frozen (show b < w.heap.size from cell_lt h.c0)]; exact h.f0, by rw [hb.frozen (show b < w.heap.size from cell_lt h.c0)]; exact h.f1⟩
theorem FrAt.fresh (w : World) (p q : Int) : FrAt (w.alloc (.cells #[.int .i64 p, .int .i64 q] 25)) w.heap.size p q := by
  have := res_past (x := .int .i64 p) (y := .int .i64 q) (w := w) (t := 25) (Below.refl _ _)
  exact ⟨this.1, this.2.1, this.2.2.1, this.2.2.2⟩
theorem FrAt.put {w : World} {b : Nat} {p q : Int} (h : FrAt w b p q) (x y : Int) : FrAt ((w.setCell ⟨b, 0, none⟩ (.int .i64 x)).setCell ⟨b, 1, none⟩ (.int .i64 y)) b x y := by
  have := put_two (.int .i64 x) (.int .i64 y) h.c0 h.c1
  exact ⟨this.2.1, this.2.2, by rw [World.frozen?_setCell, World.frozen?_setCell]; exact h.f0, by rw [World.frozen?_setCell, World.frozen?_setCell]; exact h.f1⟩

set_option maxRecDepth 100000 in
theorem OfFrac_pq (p q : Nat) (w : World) (hq0 : 0 < q) (hp1 : p ≤ 4611686018427387904) (hq1 : q ≤ 4611686018427387904) :
    Calls Tryz.prog 15 #[.agg #[.int .i64 (p : Int), .int .i64 (q : Int)]] w fun e w' => ∃ r, e = .returned r ∧ RatioAt w' r (lowN q (p : Int)) (lowD q (p : Int)) ∧ Below w.heap.size w w' := by
  obtain ⟨W0, hW0⟩ : ∃ W0, W0 = (w.alloc (.cells #[.int .i64 (p : Int), .int .i64 (q : Int)] 25)).alloc (.cells #[.bool false, .slice none 0 0, .slice none 0 0] 33) := ⟨_, rfl⟩
  have hb0 : Below w.heap.size w W0 := by rw [hW0]; exact below_chain (new_below _ _) (new_below _ _)
  have hro := RatioOf_any (p : Int) q W0 (by omega) (by omega) hq0 hq1
  have hro : Calls Tryz.prog 11 #[.int .i64 (p : Int), .int .i64 (q : Int)] W0 fun e w' => ∃ r, e = .returned r ∧ RatioAt w' r (lowN q (p : Int)) (lowD q (p : Int)) ∧ Below W0.heap.size W0 w' := hro
  have HR0 : Hid (∀ W, Below W0.heap.size W0 W → RBox W (w.heap.size + 1) false none 0 0 none 0 0 0 0) := fun W hb => by
    have h : RBox W0 (w.heap.size + 1) false none 0 0 none 0 0 0 0 := by
      have := RBox.fresh (w := w.alloc (.cells #[.int .i64 (p : Int), .int .i64 (q : Int)] 25)) (n := 0) (d := 0) (s := false) ⟨_, _, rfl, big_none _, big_none _⟩
      rw [World.size_alloc] at this
      rw [hW0]; exact this
    exact h.later hb
  have z0 : W0.cell? ⟨w.heap.size, 0, none⟩ = some (.int .i64 (p : Int)) := by rw [hW0, World.cell?_alloc_lt _ _ ⟨w.heap.size, 0, none⟩ (by simp), World.cell?_alloc_at _ _ _ _ rfl]; rfl
  have z1 : W0.cell? ⟨w.heap.size, 1, none⟩ = some (.int .i64 (q : Int)) := by rw [hW0, World.cell?_alloc_lt _ _ ⟨w.heap.size, 1, none⟩ (by simp), World.cell?_alloc_at _ _ _ _ rfl]; rfl
  have HB0 := Hid.mk' hb0
  have HW0 := Hid.mk' hW0
  clear hb0 hW0 hq0 hp1 hq1
  go_enter Tryz.func15, Tryz.ntmps15
  go_upto_region 1 with fail
  rw [← HW0.out]
  go_wp2_with fail
  refine hro.mono ?_
  clear hro
  rintro e w1 ⟨r, rfl, hr, hb1⟩
  obtain ⟨s1, x1, l1, c1, x1', l1', c1', rfl⟩ := hr.sl
  have hR := HR0.out _ hb1
  have y0 := hR.c0
  have y1 := hR.c1
  have y2 := hR.c2
  have f0 := hR.fz 0 (by decide)
  have f1 := hR.fz 1 (by decide)
  have f2 := hR.fz 2 (by decide)
  obtain ⟨⟨g0, g1⟩, ⟨g2, g3⟩, g4⟩ := put_three' (.bool s1) (.slice x1 l1 c1) (.slice x1' l1' c1') y0 y1 y2
  have HP := Hid.mk' (hR.put hr)
  have HBF := Hid.mk' (below_chain HB0.out hb1)
  clear hR hr hb1
  unfold put3 at HP
  go_wp2_with fail
  refine bodyPost_ret (v := .agg #[.bool s1, .slice x1 l1 c1, .slice x1' l1' c1']) (by simp [results, Tryz.results15, go_sem, HP.out.c0, HP.out.c1, HP.out.c2]) rfl ⟨_, rfl, HP.out.rat, ?_⟩
  exact (((HBF.out.setCell (Nat.le_succ _) _).setCell (Nat.le_succ _) _).setCell (Nat.le_succ _) _)
theorem pow63 {k : Nat} (h : k ≤ 128) : 2 ^ (63 * k) < 1000000 ^ 700 := Nat.lt_of_le_of_lt (Nat.pow_le_pow_right (by decide) (show 63 * k ≤ 8064 by omega)) (by decide +kernel)
theorem step63 {A B p q k : Nat} (hA : A ≤ 2 ^ (63 * k)) (hB : B ≤ 2 ^ (63 * k)) (hp : p ≤ 4611686018427387904) (hq : q ≤ 4611686018427387904) : A * q + p * B ≤ 2 ^ (63 * (k + 1)) ∧ B * q ≤ 2 ^ (63 * (k + 1)) := by
  have e : 2 ^ (63 * (k + 1)) = 2 ^ (63 * k) * 9223372036854775808 := by rw [Nat.mul_add, Nat.pow_add]
  have h1 := Nat.mul_le_mul hA hq
  have h2 := Nat.mul_le_mul hp hB
  have h3 := Nat.mul_le_mul hB hq
  rw [e]
  generalize 2 ^ (63 * k) = X at *
  omega
end Go.Proofs.YtkglaiigoogapaaGreatDoor

/- The library contracts of strings.Repeat, HasPrefix, CutPrefix, slices.Min, Max, the insertion sort by a function and cmp.Compare laid at the numbers of this translation. -/
namespace Go.Proofs
open Go.Shelf
def Tryz.repeatA_ren : Go.Shelf.Ren := ⟨fun | 105 => 24 | 212 => 44 | 99 => 45 | 165 => 46 | 166 => 47 | 170 => 48 | 169 => 49 | 263 => 70 | 264 => 71 | 206 => 72 | 240 => 73 | 241 => 74 | 276 => 90 | 277 => 91 | n => n, fun | 9 => 9 | 3 => 3 | 4 => 4 | 20 => 20 | 0 => 0 | 46 => 83 | 109 => 84 | 5 => 5 | 72 => 89 | 76 => 91 | 51 => 117 | 146 => 118 | 53 => 96 | 148 => 120 | 70 => 87 | 37 => 72 | 75 => 36 | 127 => 122 | 164 => 128 | 80 => 94 | n => n, fun | n => n⟩
theorem Tryz.repeatA : Go.Proofs.Lays.n105 Tryz.prog Tryz.repeatA_ren := {
  mixed := by kernel_rfl
  f99 := Tryz.func45.trans (congrArg some (by kernel_rfl))
  f105 := Tryz.func24.trans (congrArg some (by kernel_rfl))
  f165 := Tryz.func46.trans (congrArg some (by kernel_rfl))
  f166 := Tryz.func47.trans (congrArg some (by kernel_rfl))
  f169 := Tryz.func49.trans (congrArg some (by kernel_rfl))
  f170 := Tryz.func48.trans (congrArg some (by kernel_rfl))
  f206 := Tryz.func72.trans (congrArg some (by kernel_rfl))
  f212 := Tryz.func44.trans (congrArg some (by kernel_rfl))
  f240 := Tryz.func73.trans (congrArg some (by kernel_rfl))
  f241 := Tryz.func74.trans (congrArg some (by kernel_rfl))
  f263 := Tryz.func70.trans (congrArg some (by kernel_rfl))
  f264 := Tryz.func71.trans (congrArg some (by kernel_rfl))
  f276 := Tryz.func90.trans (congrArg some (by kernel_rfl))
  f277 := Tryz.func91.trans (congrArg some (by kernel_rfl))
  t0 := Tryz.underlying0
  a0 := Tryz.isAgg0
  z0 := Tryz.sizeOf0
  v0 := Tryz.zeroValue0
  t3 := Tryz.underlying3
  a3 := Tryz.isAgg3
  z3 := Tryz.sizeOf3
  v3 := Tryz.zeroValue3
  t4 := Tryz.underlying4
  a4 := Tryz.isAgg4
  z4 := Tryz.sizeOf4
  v4 := Tryz.zeroValue4
  t5 := Tryz.underlying5
  a5 := Tryz.isAgg5
  z5 := Tryz.sizeOf5
  v5 := Tryz.zeroValue5
  t9 := Tryz.underlying9
  a9 := Tryz.isAgg9
  z9 := Tryz.sizeOf9
  v9 := Tryz.zeroValue9
  t20 := Tryz.underlying20
  a20 := Tryz.isAgg20
  z20 := Tryz.sizeOf20
  v20 := Tryz.zeroValue20
  t37 := Tryz.underlying72
  a37 := Tryz.isAgg72
  z37 := Tryz.sizeOf72
  v37 := Tryz.zeroValue72
  t46 := Tryz.underlying83
  a46 := Tryz.isAgg83
  z46 := Tryz.sizeOf83
  v46 := Tryz.zeroValue83
  t51 := Tryz.underlying117
  a51 := Tryz.isAgg117
  z51 := Tryz.sizeOf117
  v51 := Tryz.zeroValue117
  t53 := Tryz.underlying96
  a53 := Tryz.isAgg96
  z53 := Tryz.sizeOf96
  v53 := Tryz.zeroValue96
  t70 := Tryz.underlying87
  a70 := Tryz.isAgg87
  z70 := Tryz.sizeOf87
  v70 := Tryz.zeroValue87
  t72 := Tryz.underlying89
  a72 := Tryz.isAgg89
  z72 := Tryz.sizeOf89
  v72 := Tryz.zeroValue89
  t75 := Tryz.underlying36
  a75 := Tryz.isAgg36
  z75 := Tryz.sizeOf36
  v75 := Tryz.zeroValue36
  t76 := Tryz.underlying91
  a76 := Tryz.isAgg91
  z76 := Tryz.sizeOf91
  v76 := Tryz.zeroValue91
  t109 := Tryz.underlying84
  a109 := Tryz.isAgg84
  z109 := Tryz.sizeOf84
  v109 := Tryz.zeroValue84
  t127 := Tryz.underlying122
  a127 := Tryz.isAgg122
  z127 := Tryz.sizeOf122
  v127 := Tryz.zeroValue122
  t146 := Tryz.underlying118
  a146 := Tryz.isAgg118
  z146 := Tryz.sizeOf118
  v146 := Tryz.zeroValue118
  t148 := Tryz.underlying120
  a148 := Tryz.isAgg120
  z148 := Tryz.sizeOf120
  v148 := Tryz.zeroValue120
  t164 := Tryz.underlying128
  a164 := Tryz.isAgg128
  z164 := Tryz.sizeOf128
  v164 := Tryz.zeroValue128 }
theorem Tryz.repeatX : Builder.Extra Tryz.prog Tryz.repeatA_ren := { sizeBuilder := by kernel_rfl, liesBuilder := by kernel_rfl, t5 := Tryz.underlying5, a5 := Tryz.isAgg5, z5 := Tryz.sizeOf5, v5 := Tryz.zeroValue5, infoByte := by kernel_rfl, cellsByte := by kernel_rfl, sizeByte := by kernel_rfl, neB5 := by decide }
def Tryz.hasPrefixA_ren : Go.Shelf.Ren := ⟨fun | 99 => 45 | 206 => 72 | n => n, fun | 9 => 9 | 4 => 4 | 3 => 3 | n => n, fun | n => n⟩
theorem Tryz.hasPrefixA : Go.Proofs.Lays.n99 Tryz.prog Tryz.hasPrefixA_ren := {
  mixed := by kernel_rfl
  f99 := Tryz.func45.trans (congrArg some (by kernel_rfl))
  f206 := Tryz.func72.trans (congrArg some (by kernel_rfl))
  t3 := Tryz.underlying3
  a3 := Tryz.isAgg3
  z3 := Tryz.sizeOf3
  v3 := Tryz.zeroValue3
  t4 := Tryz.underlying4
  a4 := Tryz.isAgg4
  z4 := Tryz.sizeOf4
  v4 := Tryz.zeroValue4
  t9 := Tryz.underlying9
  a9 := Tryz.isAgg9
  z9 := Tryz.sizeOf9
  v9 := Tryz.zeroValue9 }
def Tryz.hasSuffixA_ren : Go.Shelf.Ren := ⟨fun | 100 => 52 | 207 => 76 | n => n, fun | 9 => 9 | 4 => 4 | 3 => 3 | n => n, fun | n => n⟩
theorem Tryz.hasSuffixA : Go.Proofs.Lays.n100 Tryz.prog Tryz.hasSuffixA_ren := {
  mixed := by kernel_rfl
  f100 := Tryz.func52.trans (congrArg some (by kernel_rfl))
  f207 := Tryz.func76.trans (congrArg some (by kernel_rfl))
  t3 := Tryz.underlying3
  a3 := Tryz.isAgg3
  z3 := Tryz.sizeOf3
  v3 := Tryz.zeroValue3
  t4 := Tryz.underlying4
  a4 := Tryz.isAgg4
  z4 := Tryz.sizeOf4
  v4 := Tryz.zeroValue4
  t9 := Tryz.underlying9
  a9 := Tryz.isAgg9
  z9 := Tryz.sizeOf9
  v9 := Tryz.zeroValue9 }
def Tryz.compareA_ren : Go.Shelf.Ren := ⟨fun | 122 => 102 | 215 => 109 | n => n, fun | 3 => 3 | 4 => 4 | n => n, fun | n => n⟩
theorem Tryz.compareA : Go.Proofs.Lays.n122 Tryz.prog Tryz.compareA_ren := {
  mixed := by kernel_rfl
  f122 := Tryz.func102.trans (congrArg some (by kernel_rfl))
  f215 := Tryz.func109.trans (congrArg some (by kernel_rfl))
  t3 := Tryz.underlying3
  a3 := Tryz.isAgg3
  z3 := Tryz.sizeOf3
  v3 := Tryz.zeroValue3
  t4 := Tryz.underlying4
  a4 := Tryz.isAgg4
  z4 := Tryz.sizeOf4
  v4 := Tryz.zeroValue4 }
end Go.Proofs

/- The program's contexts: behind, by, mean. -/
namespace Go.Proofs.YtkglaiigoogapaaGreatDoor
open Go.RowKit

/-- Two boxes with two numbers each, and one for the result. -/
structure TwoSh (w : World) (B : Nat) (x0 : Option Addr) (l0 c0 : Nat) (x1 : Option Addr) (l1 c1 : Nat) (y0 : Option Addr) (m0 d0 : Nat) (y1 : Option Addr) (m1 d1 : Nat) : Prop where
  a0 : w.cell? ⟨B, 0, none⟩ = some (.slice x0 l0 c0)
  a1 : w.cell? ⟨B, 1, none⟩ = some (.slice x1 l1 c1)
  b0 : w.cell? ⟨B + 1, 0, none⟩ = some (.slice y0 m0 d0)
  b1 : w.cell? ⟨B + 1, 1, none⟩ = some (.slice y1 m1 d1)
  r0 : w.cell? ⟨B + 1 + 1, 0, none⟩ = some (.slice none 0 0)
  r1 : w.cell? ⟨B + 1 + 1, 1, none⟩ = some (.slice none 0 0)
  f0 : w.frozen? ⟨B + 1 + 1, 0, none⟩ = false
  f1 : w.frozen? ⟨B + 1 + 1, 1, none⟩ = false
theorem TwoSh.later {w w' : World} {B : Nat} {x0 : Option Addr} {l0 c0 : Nat} {x1 : Option Addr} {l1 c1 : Nat} {y0 : Option Addr} {m0 d0 : Nat} {y1 : Option Addr} {m1 d1 : Nat} (h : TwoSh w B x0 l0 c0 x1 l1 c1 y0 m0 d0 y1 m1 d1) (hb : Below w.heap.size w w') : TwoSh w' B x0 l0 c0 x1 l1 c1 y0 m0 d0 y1 m1 d1 :=
  ⟨by rw [hb.cell (cell_lt h.a0)]; exact h.a0, by rw [hb.cell (cell_lt h.a1)]; exact h.a1, by rw [hb.cell (cell_lt h.b0)]; exact h.b0, by rw [hb.cell (cell_lt h.b1)]; exact h.b1, by rw [hb.cell (cell_lt h.r0)]; exact h.r0, by rw [hb.cell (cell_lt h.r1)]; exact h.r1, by rw [hb.frozen (cell_lt h.r0)]; exact h.f0, by rw [hb.frozen (cell_lt h.r1)]; exact h.f1⟩
theorem TwoSh.fresh (w : World) (x0 : Option Addr) (l0 c0 : Nat) (x1 : Option Addr) (l1 c1 : Nat) (y0 : Option Addr) (m0 d0 : Nat) (y1 : Option Addr) (m1 d1 : Nat) (t : TypeId) : TwoSh (((w.alloc (.cells #[.slice x0 l0 c0, .slice x1 l1 c1] t)).alloc (.cells #[.slice y0 m0 d0, .slice y1 m1 d1] t)).alloc (.cells #[.slice none 0 0, .slice none 0 0] t)) w.heap.size x0 l0 c0 x1 l1 c1 y0 m0 d0 y1 m1 d1 := by
  have s1 : ∀ (W : World) (X : Obj), (W.alloc X).heap.size = W.heap.size + 1 := fun W X => by simp
  have at0 : ∀ (W : World) (u v : Value) (j : Nat), (W.alloc (.cells #[u, v] t)).cell? ⟨W.heap.size, j, none⟩ = #[u, v][j]? := fun W u v j => World.cell?_alloc_at _ _ _ _ rfl
  have fr0 : ∀ (W : World) (u v : Value) (j : Nat), (W.alloc (.cells #[u, v] t)).frozen? ⟨W.heap.size, j, none⟩ = false := fun W u v j => World.frozen?_alloc_new W _ _ _
  have e1 : w.heap.size + 1 = (w.alloc (.cells #[.slice x0 l0 c0, .slice x1 l1 c1] t)).heap.size := (s1 _ _).symm
  have e2 : w.heap.size + 1 + 1 = ((w.alloc (.cells #[.slice x0 l0 c0, .slice x1 l1 c1] t)).alloc (.cells #[.slice y0 m0 d0, .slice y1 m1 d1] t)).heap.size := by rw [s1, s1]
  refine ⟨?_, ?_, ?_, ?_, ?_, ?_, ?_, ?_⟩
  · rw [World.cell?_alloc_lt _ _ _ (by rw [s1, s1]; show w.heap.size < _; omega), World.cell?_alloc_lt _ _ _ (by rw [s1]; show w.heap.size < _; omega), at0]; rfl
  · rw [World.cell?_alloc_lt _ _ _ (by rw [s1, s1]; show w.heap.size < _; omega), World.cell?_alloc_lt _ _ _ (by rw [s1]; show w.heap.size < _; omega), at0]; rfl
  · rw [World.cell?_alloc_lt _ _ _ (by rw [s1, s1]; show w.heap.size + 1 < _; omega), e1, at0]; rfl
  · rw [World.cell?_alloc_lt _ _ _ (by rw [s1, s1]; show w.heap.size + 1 < _; omega), e1, at0]; rfl
  · rw [e2, at0]; rfl
  · rw [e2, at0]; rfl
  · rw [e2]; exact fr0 _ _ _ _
  · rw [e2]; exact fr0 _ _ _ _
theorem NatAt.put2 {w : World} {u y : Value} {n : Nat} {p : Addr} {v : Value} (h : NatAt w u n) (hc : w.cell? p = some v) (hv : ∀ x, v ≠ .int .u64 x) : NatAt (w.setCell p y) u n := by
  obtain ⟨l, h1, h2, h3, h4⟩ := h
  refine ⟨l, h1, h2, h3, ?_⟩
  rcases h4 with h | ⟨b, o, cap, e1, e2, e3, e4⟩
  · exact Or.inl h
  · refine Or.inr ⟨b, o, cap, e1, e2, e3, fun i hi => ?_⟩
    rw [World.cell?_setCell_other _ _ _ _ (fun e => ?_)]
    · exact e4 i hi
    · have := e4 i hi
      rw [← e, hc] at this
      exact hv _ (Option.some.inj this)
theorem NatAt.putPair {w : World} {u : Value} {n b : Nat} (h : NatAt w u n) (y0 y1 : Value) (k0 : w.cell? ⟨b, 0, none⟩ = some (.slice none 0 0)) (k1 : w.cell? ⟨b, 1, none⟩ = some (.slice none 0 0)) : NatAt ((w.setCell ⟨b, 0, none⟩ y0).setCell ⟨b, 1, none⟩ y1) u n :=
  (h.put2 k0 (by simp)).put2 (v := .slice none 0 0) (by rw [World.cell?_setCell_other _ _ _ _ (fun e => by have := congrArg Addr.off e; simp at this)]; exact k1) (by simp)
set_option maxRecDepth 100000 in
set_option maxHeartbeats 4000000 in
theorem share_by (x0 : Option Addr) (l0 c0 : Nat) (x1 : Option Addr) (l1 c1 : Nat) (y0 : Option Addr) (m0 d0 : Nat) (y1 : Option Addr) (m1 d1 a b c e : Nat) (w : World) (ha : NatAt w (.slice x0 l0 c0) a) (hb : NatAt w (.slice x1 l1 c1) b) (hc : NatAt w (.slice y0 m0 d0) c) (he : NatAt w (.slice y1 m1 d1) e) (ra : a < 18446744073709551616 ^ 220) (rb : b < 18446744073709551616 ^ 220) (rc : c < 18446744073709551616 ^ 220) (re : e < 18446744073709551616 ^ 220) :
    Calls Tryz.prog 29 #[.agg #[.slice x0 l0 c0, .slice x1 l1 c1], .agg #[.slice y0 m0 d0, .slice y1 m1 d1]] w fun er w' => ∃ z0 n0 q0 z1 n1 q1, er = .returned (.agg #[.slice z0 n0 q0, .slice z1 n1 q1]) ∧ NatAt w' (.slice z0 n0 q0) (a * c) ∧ NatAt w' (.slice z1 n1 q1) (b * e) ∧ Below w.heap.size w w' := by
  obtain ⟨W0, hW0⟩ : ∃ W0, W0 = ((w.alloc (.cells #[.slice x0 l0 c0, .slice x1 l1 c1] 63)).alloc (.cells #[.slice y0 m0 d0, .slice y1 m1 d1] 63)).alloc (.cells #[.slice none 0 0, .slice none 0 0] 63) := ⟨_, rfl⟩
  have hb0 : Below w.heap.size w W0 := by rw [hW0]; exact below_chain (new_below _ _) (below_chain (new_below _ _) (new_below _ _))
  have HT : Hid (∀ W, Below W0.heap.size W0 W → TwoSh W w.heap.size x0 l0 c0 x1 l1 c1 y0 m0 d0 y1 m1 d1) := fun W hb => by
    have := TwoSh.fresh w x0 l0 c0 x1 l1 c1 y0 m0 d0 y1 m1 d1 63
    rw [← hW0] at this
    exact this.later hb
  have HN : Hid (∀ W, Below W0.heap.size W0 W → NatAt W (.slice x0 l0 c0) a ∧ NatAt W (.slice x1 l1 c1) b ∧ NatAt W (.slice y0 m0 d0) c ∧ NatAt W (.slice y1 m1 d1) e) := fun W hb' => ⟨(ha.later hb0).later hb', (hb.later hb0).later hb', (hc.later hb0).later hb', (he.later hb0).later hb'⟩
  have HKS : Hid (∀ W, Below W0.heap.size W0 W → (W.cell? ⟨w.heap.size, 0, none⟩ = some (.slice x0 l0 c0) ∧ W.cell? ⟨w.heap.size, 1, none⟩ = some (.slice x1 l1 c1) ∧ W.cell? ⟨w.heap.size + 1, 0, none⟩ = some (.slice y0 m0 d0) ∧ W.cell? ⟨w.heap.size + 1, 1, none⟩ = some (.slice y1 m1 d1))) := fun W hb => ⟨(HT.out W hb).a0, (HT.out W hb).a1, (HT.out W hb).b0, (HT.out W hb).b1⟩
  have HB0 := Hid.mk' hb0
  have HW0 := Hid.mk' hW0
  clear hb0 hW0 ha hb hc he
  go_enter Tryz.func29, Tryz.ntmps29
  go_upto_region 1 with fail
  rw [← HW0.out]
  have hcur : Below W0.heap.size W0 W0.drew := (Below.refl _ _).drew
  refine region_but_last (n := 11) (S := fun W => W.cell? ⟨w.heap.size, 0, none⟩ = some (.slice x0 l0 c0) ∧ W.cell? ⟨w.heap.size, 1, none⟩ = some (.slice x1 l1 c1) ∧ W.cell? ⟨w.heap.size + 1, 0, none⟩ = some (.slice y0 m0 d0) ∧ W.cell? ⟨w.heap.size + 1, 1, none⟩ = some (.slice y1 m1 d1)) (by kernel_rfl) (by kernel_rfl) (by kernel_rfl) (HKS.out _ hcur) (fun hHeld => ?_)
  refine wpAnyH_take (i := 0) (v := ?v0g1) rfl (by kernel_rfl) (by kernel_rfl) (by kernel_rfl) (fun _ _ _ h => h) (Or.inl ⟨by rfl, ?hy0g1⟩) (by assumption) ?rest0g1
  case hy0g1 => (intro w hSw; (try dsimp only at hSw); go_simp <;> (try with_reducible rfl))
  simp only [Act.put]
  refine wpAnyH_take (i := 1) (v := ?v1g2) rfl (by kernel_rfl) (by kernel_rfl) (by kernel_rfl) (fun _ _ _ h => h) (Or.inl ⟨by rfl, ?hy1g2⟩) (by assumption) ?rest1g2
  case hy1g2 => (intro w hSw; (try dsimp only at hSw); go_simp <;> (try with_reducible rfl))
  simp only [Act.put]
  refine wpAnyH_take (i := 2) (v := ?v2g3) rfl (by kernel_rfl) (by kernel_rfl) (by kernel_rfl) (fun _ _ _ h => h) (Or.inl ⟨by rfl, ?hy2g3⟩) (by assumption) ?rest2g3
  case hy2g3 => (intro w hSw; (try dsimp only at hSw); go_simp <;> (try with_reducible rfl))
  simp only [Act.put]
  refine wpAnyH_take (i := 3) (v := ?v3g4) rfl (by kernel_rfl) (by kernel_rfl) (by kernel_rfl) (fun _ _ _ h => h) (Or.inl ⟨by rfl, ?hy3g4⟩) (by assumption) ?rest3g4
  case hy3g4 => (intro w hSw; (try dsimp only at hSw); go_simp <;> (try with_reducible rfl))
  simp only [Act.put]
  refine wpAnyH_take (i := 5) (v := ?v5g5) rfl (by kernel_rfl) (by kernel_rfl) (by kernel_rfl) (fun _ _ _ h => h) (Or.inl ⟨by rfl, ?hy5g5⟩) (by assumption) ?rest5g5
  case hy5g5 => (intro w hSw; (try dsimp only at hSw); go_simp <;> (try with_reducible rfl))
  simp only [Act.put]
  refine wpAnyH_take (i := 6) (v := ?v6g6) rfl (by kernel_rfl) (by kernel_rfl) (by kernel_rfl) (fun _ _ _ h => h) (Or.inl ⟨by rfl, ?hy6g6⟩) (by assumption) ?rest6g6
  case hy6g6 => (intro w hSw; (try dsimp only at hSw); go_simp <;> (try with_reducible rfl))
  simp only [Act.put]
  refine wpAnyH_take (i := 7) (v := ?v7g7) rfl (by kernel_rfl) (by kernel_rfl) (by kernel_rfl) (fun _ _ _ h => h) (Or.inl ⟨by rfl, ?hy7g7⟩) (by assumption) ?rest7g7
  case hy7g7 => (intro w hSw; (try dsimp only at hSw); go_simp <;> (try with_reducible rfl))
  simp only [Act.put]
  refine wpAnyH_take (i := 8) (v := ?v8g8) rfl (by kernel_rfl) (by kernel_rfl) (by kernel_rfl) (fun _ _ _ h => h) (Or.inl ⟨by rfl, ?hy8g8⟩) (by assumption) ?rest8g8
  case hy8g8 => (intro w hSw; (try dsimp only at hSw); go_simp <;> (try with_reducible rfl))
  simp only [Act.put]
  refine wpAnyH_ready (rs := [4]) (by kernel_rfl) (by simp) ?_
  refine AllReadyH.cons rfl (fun K hK => ?_) AllReadyH.nil
  go_simp
  refine (By_any _ _ a c 220 _ (HN.out _ hcur).1 (HN.out _ hcur).2.2.1 ra rc (by decide)).mono ?_
  rintro er w5 ⟨v5, rfl, hv5, hb5⟩
  have hcur := below_chain hcur hb5
  have HV5 := Hid.mk' hv5
  obtain ⟨p5, n5, q5, hve5⟩ : ∃ x l c, v5 = .slice x l c := by
    obtain ⟨l, _, _, _, h4⟩ := hv5
    obtain ⟨ad, cq, h5⟩ := h4.form
    exact ⟨_, _, _, h5⟩
  subst hve5
  clear hv5 hb5
  go_wp2_with fail
  refine hK.out _ _ ?_ (fun hHeld => ?_)
  · exact HKS.out _ hcur
  clear hK K
  refine wpAnyH_ready (rs := [9]) (by kernel_rfl) (by simp) ?_
  refine AllReadyH.cons rfl (fun K hK => ?_) AllReadyH.nil
  go_simp
  refine (By_any _ _ b e 220 _ (HN.out _ hcur).2.1 (HN.out _ hcur).2.2.2 rb re (by decide)).mono ?_
  rintro er w6 ⟨v6, rfl, hv6, hb6⟩
  have hcur := below_chain hcur hb6
  have HV6 := Hid.mk' hv6
  have HV5 := Hid.mk' (HV5.out.later hb6)
  obtain ⟨p6, n6, q6, hve6⟩ : ∃ x l c, v6 = .slice x l c := by
    obtain ⟨l, _, _, _, h4⟩ := hv6
    obtain ⟨ad, cq, h5⟩ := h4.form
    exact ⟨_, _, _, h5⟩
  subst hve6
  clear hv6 hb6
  go_wp2_with fail
  refine hK.out _ _ ?_ (fun hHeld => ?_)
  · exact HKS.out _ hcur
  clear hK K
  refine wpAnyH_take (i := 10) (v := ?v10g9) rfl (by kernel_rfl) (by kernel_rfl) (by kernel_rfl) (fun _ _ _ h => h) (Or.inl ⟨by rfl, ?hy10g9⟩) (by assumption) ?rest10g9
  case hy10g9 => (intro w hSw; (try dsimp only at hSw); go_simp <;> (try with_reducible rfl))
  simp only [Act.put]
  have hL := HT.out _ hcur
  have fz0 := hL.f0
  have fz1 := hL.f1
  have k0 := hL.r0
  have k1 := hL.r1
  obtain ⟨g0, g1, g2⟩ := put_two (.slice p5 n5 q5) (.slice p6 n6 q6) k0 k1
  have HBF := Hid.mk' (below_chain HB0.out hcur)
  have HVA := Hid.mk' (HV5.out.putPair (.slice p5 n5 q5) (.slice p6 n6 q6) k0 k1)
  have HVB := Hid.mk' (HV6.out.putPair (.slice p5 n5 q5) (.slice p6 n6 q6) k0 k1)
  refine wpAnyH_done (by kernel_rfl) ?_ _
  refine ahead_last rfl (fun K hK => ?_)
  go_simp
  refine hK _ _ ?_
  clear hK K
  go_wp2_with fail
  refine bodyPost_ret (v := .agg #[.slice p5 n5 q5, .slice p6 n6 q6]) (by simp [results, Tryz.results29, go_sem, g1, g2]) rfl ⟨_, _, _, _, _, _, rfl, HVA.out, HVB.out, ?_⟩
  exact (HBF.out.setCell (by show w.heap.size ≤ w.heap.size + 1 + 1; omega) _).setCell (by show w.heap.size ≤ w.heap.size + 1 + 1; omega) _
set_option maxRecDepth 100000 in
set_option maxHeartbeats 4000000 in
theorem share_mean (x0 : Option Addr) (l0 c0 : Nat) (x1 : Option Addr) (l1 c1 : Nat) (y0 : Option Addr) (m0 d0 : Nat) (y1 : Option Addr) (m1 d1 a b c e : Nat) (w : World) (ha : NatAt w (.slice x0 l0 c0) a) (hb : NatAt w (.slice x1 l1 c1) b) (hc : NatAt w (.slice y0 m0 d0) c) (he : NatAt w (.slice y1 m1 d1) e) (ra : a < 18446744073709551616 ^ 220) (rb : b < 18446744073709551616 ^ 220) (rc : c < 18446744073709551616 ^ 220) (re : e < 18446744073709551616 ^ 220) (rae : a * e < 18446744073709551616 ^ 220) (rcb : c * b < 18446744073709551616 ^ 220) (rbe : b * e < 18446744073709551616 ^ 220) :
    Calls Tryz.prog 28 #[.agg #[.slice x0 l0 c0, .slice x1 l1 c1], .agg #[.slice y0 m0 d0, .slice y1 m1 d1]] w fun er w' => ∃ z0 n0 q0 z1 n1 q1, er = .returned (.agg #[.slice z0 n0 q0, .slice z1 n1 q1]) ∧ NatAt w' (.slice z0 n0 q0) (a * e + c * b) ∧ NatAt w' (.slice z1 n1 q1) (b * e * 2) ∧ Below w.heap.size w w' := by
  obtain ⟨W0, hW0⟩ : ∃ W0, W0 = ((w.alloc (.cells #[.slice x0 l0 c0, .slice x1 l1 c1] 63)).alloc (.cells #[.slice y0 m0 d0, .slice y1 m1 d1] 63)).alloc (.cells #[.slice none 0 0, .slice none 0 0] 63) := ⟨_, rfl⟩
  have hb0 : Below w.heap.size w W0 := by rw [hW0]; exact below_chain (new_below _ _) (below_chain (new_below _ _) (new_below _ _))
  have HT : Hid (∀ W, Below W0.heap.size W0 W → TwoSh W w.heap.size x0 l0 c0 x1 l1 c1 y0 m0 d0 y1 m1 d1) := fun W hb => by
    have := TwoSh.fresh w x0 l0 c0 x1 l1 c1 y0 m0 d0 y1 m1 d1 63
    rw [← hW0] at this
    exact this.later hb
  have HN : Hid (∀ W, Below W0.heap.size W0 W → NatAt W (.slice x0 l0 c0) a ∧ NatAt W (.slice x1 l1 c1) b ∧ NatAt W (.slice y0 m0 d0) c ∧ NatAt W (.slice y1 m1 d1) e) := fun W hb' => ⟨(ha.later hb0).later hb', (hb.later hb0).later hb', (hc.later hb0).later hb', (he.later hb0).later hb'⟩
  have HKS : Hid (∀ W, Below W0.heap.size W0 W → (W.cell? ⟨w.heap.size, 0, none⟩ = some (.slice x0 l0 c0) ∧ W.cell? ⟨w.heap.size, 1, none⟩ = some (.slice x1 l1 c1) ∧ W.cell? ⟨w.heap.size + 1, 0, none⟩ = some (.slice y0 m0 d0) ∧ W.cell? ⟨w.heap.size + 1, 1, none⟩ = some (.slice y1 m1 d1))) := fun W hb => ⟨(HT.out W hb).a0, (HT.out W hb).a1, (HT.out W hb).b0, (HT.out W hb).b1⟩
  have HB0 := Hid.mk' hb0
  have HW0 := Hid.mk' hW0
  clear hb0 hW0 ha hb hc he
  go_enter Tryz.func28, Tryz.ntmps28
  go_upto_region 1 with fail
  rw [← HW0.out]
  have hcur : Below W0.heap.size W0 W0.drew := (Below.refl _ _).drew
  refine region_but_last (n := 18) (S := fun W => W.cell? ⟨w.heap.size, 0, none⟩ = some (.slice x0 l0 c0) ∧ W.cell? ⟨w.heap.size, 1, none⟩ = some (.slice x1 l1 c1) ∧ W.cell? ⟨w.heap.size + 1, 0, none⟩ = some (.slice y0 m0 d0) ∧ W.cell? ⟨w.heap.size + 1, 1, none⟩ = some (.slice y1 m1 d1)) (by kernel_rfl) (by kernel_rfl) (by kernel_rfl) (HKS.out _ hcur) (fun hHeld => ?_)
  refine wpAnyH_take (i := 0) (v := ?v0g10) rfl (by kernel_rfl) (by kernel_rfl) (by kernel_rfl) (fun _ _ _ h => h) (Or.inl ⟨by rfl, ?hy0g10⟩) (by assumption) ?rest0g10
  case hy0g10 => (intro w hSw; (try dsimp only at hSw); go_simp <;> (try with_reducible rfl))
  simp only [Act.put]
  refine wpAnyH_take (i := 1) (v := ?v1g11) rfl (by kernel_rfl) (by kernel_rfl) (by kernel_rfl) (fun _ _ _ h => h) (Or.inl ⟨by rfl, ?hy1g11⟩) (by assumption) ?rest1g11
  case hy1g11 => (intro w hSw; (try dsimp only at hSw); go_simp <;> (try with_reducible rfl))
  simp only [Act.put]
  refine wpAnyH_take (i := 2) (v := ?v2g12) rfl (by kernel_rfl) (by kernel_rfl) (by kernel_rfl) (fun _ _ _ h => h) (Or.inl ⟨by rfl, ?hy2g12⟩) (by assumption) ?rest2g12
  case hy2g12 => (intro w hSw; (try dsimp only at hSw); go_simp <;> (try with_reducible rfl))
  simp only [Act.put]
  refine wpAnyH_take (i := 3) (v := ?v3g13) rfl (by kernel_rfl) (by kernel_rfl) (by kernel_rfl) (fun _ _ _ h => h) (Or.inl ⟨by rfl, ?hy3g13⟩) (by assumption) ?rest3g13
  case hy3g13 => (intro w hSw; (try dsimp only at hSw); go_simp <;> (try with_reducible rfl))
  simp only [Act.put]
  refine wpAnyH_take (i := 5) (v := ?v5g14) rfl (by kernel_rfl) (by kernel_rfl) (by kernel_rfl) (fun _ _ _ h => h) (Or.inl ⟨by rfl, ?hy5g14⟩) (by assumption) ?rest5g14
  case hy5g14 => (intro w hSw; (try dsimp only at hSw); go_simp <;> (try with_reducible rfl))
  simp only [Act.put]
  refine wpAnyH_take (i := 6) (v := ?v6g15) rfl (by kernel_rfl) (by kernel_rfl) (by kernel_rfl) (fun _ _ _ h => h) (Or.inl ⟨by rfl, ?hy6g15⟩) (by assumption) ?rest6g15
  case hy6g15 => (intro w hSw; (try dsimp only at hSw); go_simp <;> (try with_reducible rfl))
  simp only [Act.put]
  refine wpAnyH_take (i := 7) (v := ?v7g16) rfl (by kernel_rfl) (by kernel_rfl) (by kernel_rfl) (fun _ _ _ h => h) (Or.inl ⟨by rfl, ?hy7g16⟩) (by assumption) ?rest7g16
  case hy7g16 => (intro w hSw; (try dsimp only at hSw); go_simp <;> (try with_reducible rfl))
  simp only [Act.put]
  refine wpAnyH_take (i := 8) (v := ?v8g17) rfl (by kernel_rfl) (by kernel_rfl) (by kernel_rfl) (fun _ _ _ h => h) (Or.inl ⟨by rfl, ?hy8g17⟩) (by assumption) ?rest8g17
  case hy8g17 => (intro w hSw; (try dsimp only at hSw); go_simp <;> (try with_reducible rfl))
  simp only [Act.put]
  refine wpAnyH_take (i := 11) (v := ?v11g18) rfl (by kernel_rfl) (by kernel_rfl) (by kernel_rfl) (fun _ _ _ h => h) (Or.inl ⟨by rfl, ?hy11g18⟩) (by assumption) ?rest11g18
  case hy11g18 => (intro w hSw; (try dsimp only at hSw); go_simp <;> (try with_reducible rfl))
  simp only [Act.put]
  refine wpAnyH_take (i := 12) (v := ?v12g19) rfl (by kernel_rfl) (by kernel_rfl) (by kernel_rfl) (fun _ _ _ h => h) (Or.inl ⟨by rfl, ?hy12g19⟩) (by assumption) ?rest12g19
  case hy12g19 => (intro w hSw; (try dsimp only at hSw); go_simp <;> (try with_reducible rfl))
  simp only [Act.put]
  refine wpAnyH_take (i := 13) (v := ?v13g20) rfl (by kernel_rfl) (by kernel_rfl) (by kernel_rfl) (fun _ _ _ h => h) (Or.inl ⟨by rfl, ?hy13g20⟩) (by assumption) ?rest13g20
  case hy13g20 => (intro w hSw; (try dsimp only at hSw); go_simp <;> (try with_reducible rfl))
  simp only [Act.put]
  refine wpAnyH_take (i := 14) (v := ?v14g21) rfl (by kernel_rfl) (by kernel_rfl) (by kernel_rfl) (fun _ _ _ h => h) (Or.inl ⟨by rfl, ?hy14g21⟩) (by assumption) ?rest14g21
  case hy14g21 => (intro w hSw; (try dsimp only at hSw); go_simp <;> (try with_reducible rfl))
  simp only [Act.put]
  refine wpAnyH_ready (rs := [4]) (by kernel_rfl) (by simp) ?_
  refine AllReadyH.cons rfl (fun K hK => ?_) AllReadyH.nil
  go_simp
  refine (By_any _ _ a e 220 _ (HN.out _ hcur).1 (HN.out _ hcur).2.2.2 ra re (by decide)).mono ?_
  rintro er w5 ⟨v5, rfl, hv5, hb5⟩
  have hcur := below_chain hcur hb5
  have HV5 := Hid.mk' hv5
  obtain ⟨p5, n5, q5, hve5⟩ : ∃ x l c, v5 = .slice x l c := by
    obtain ⟨l, _, _, _, h4⟩ := hv5
    obtain ⟨ad, cq, h5⟩ := h4.form
    exact ⟨_, _, _, h5⟩
  subst hve5
  clear hv5 hb5
  go_wp2_with fail
  refine hK.out _ _ ?_ (fun hHeld => ?_)
  · exact HKS.out _ hcur
  clear hK K
  refine wpAnyH_ready (rs := [9]) (by kernel_rfl) (by simp) ?_
  refine AllReadyH.cons rfl (fun K hK => ?_) AllReadyH.nil
  go_simp
  refine (By_any _ _ c b 220 _ (HN.out _ hcur).2.2.1 (HN.out _ hcur).2.1 rc rb (by decide)).mono ?_
  rintro er w6 ⟨v6, rfl, hv6, hb6⟩
  have hcur := below_chain hcur hb6
  have HV6 := Hid.mk' hv6
  have HV5 := Hid.mk' (HV5.out.later hb6)
  obtain ⟨p6, n6, q6, hve6⟩ : ∃ x l c, v6 = .slice x l c := by
    obtain ⟨l, _, _, _, h4⟩ := hv6
    obtain ⟨ad, cq, h5⟩ := h4.form
    exact ⟨_, _, _, h5⟩
  subst hve6
  clear hv6 hb6
  go_wp2_with fail
  refine hK.out _ _ ?_ (fun hHeld => ?_)
  · exact HKS.out _ hcur
  clear hK K
  refine wpAnyH_ready (rs := [10]) (by kernel_rfl) (by simp) ?_
  refine AllReadyH.cons rfl (fun K hK => ?_) AllReadyH.nil
  go_simp
  refine (Plus_any _ _ (a * e) (c * b) 220 _ HV5.out HV6.out rae rcb (by decide)).mono ?_
  rintro er w7 ⟨v7, rfl, hv7, hb7⟩
  have hcur := below_chain hcur hb7
  have HV7 := Hid.mk' hv7
  obtain ⟨p7, n7, q7, hve7⟩ : ∃ x l c, v7 = .slice x l c := by
    obtain ⟨l, _, _, _, h4⟩ := hv7
    obtain ⟨ad, cq, h5⟩ := h4.form
    exact ⟨_, _, _, h5⟩
  subst hve7
  clear hv7 hb7
  go_wp2_with fail
  refine hK.out _ _ ?_ (fun hHeld => ?_)
  · exact HKS.out _ hcur
  clear hK K
  refine wpAnyH_ready (rs := [15]) (by kernel_rfl) (by simp) ?_
  refine AllReadyH.cons rfl (fun K hK => ?_) AllReadyH.nil
  go_simp
  refine (By_any _ _ b e 220 _ (HN.out _ hcur).2.1 (HN.out _ hcur).2.2.2 rb re (by decide)).mono ?_
  rintro er w8 ⟨v8, rfl, hv8, hb8⟩
  have hcur := below_chain hcur hb8
  have HV8 := Hid.mk' hv8
  have HV7 := Hid.mk' (HV7.out.later hb8)
  obtain ⟨p8, n8, q8, hve8⟩ : ∃ x l c, v8 = .slice x l c := by
    obtain ⟨l, _, _, _, h4⟩ := hv8
    obtain ⟨ad, cq, h5⟩ := h4.form
    exact ⟨_, _, _, h5⟩
  subst hve8
  clear hv8 hb8
  go_wp2_with fail
  refine hK.out _ _ ?_ (fun hHeld => ?_)
  · exact HKS.out _ hcur
  clear hK K
  refine wpAnyH_ready (rs := [16]) (by kernel_rfl) (by simp) ?_
  refine AllReadyH.cons rfl (fun K hK => ?_) AllReadyH.nil
  go_simp
  refine (Times_any _ (b * e) 2 220 _ HV8.out (by decide) (by decide) rbe (by decide)).mono ?_
  rintro er w9 ⟨v9, rfl, hv9, hb9⟩
  have hcur := below_chain hcur hb9
  have HV9 := Hid.mk' hv9
  have HV7 := Hid.mk' (HV7.out.later hb9)
  obtain ⟨p9, n9, q9, hve9⟩ : ∃ x l c, v9 = .slice x l c := by
    obtain ⟨l, _, _, _, h4⟩ := hv9
    obtain ⟨ad, cq, h5⟩ := h4.form
    exact ⟨_, _, _, h5⟩
  subst hve9
  clear hv9 hb9
  go_wp2_with fail
  refine hK.out _ _ ?_ (fun hHeld => ?_)
  · exact HKS.out _ hcur
  clear hK K
  refine wpAnyH_take (i := 17) (v := ?v17g22) rfl (by kernel_rfl) (by kernel_rfl) (by kernel_rfl) (fun _ _ _ h => h) (Or.inl ⟨by rfl, ?hy17g22⟩) (by assumption) ?rest17g22
  case hy17g22 => (intro w hSw; (try dsimp only at hSw); go_simp <;> (try with_reducible rfl))
  simp only [Act.put]
  have hL := HT.out _ hcur
  have fz0 := hL.f0
  have fz1 := hL.f1
  have k0 := hL.r0
  have k1 := hL.r1
  obtain ⟨g0, g1, g2⟩ := put_two (.slice p7 n7 q7) (.slice p9 n9 q9) k0 k1
  have HBF := Hid.mk' (below_chain HB0.out hcur)
  have HVA := Hid.mk' (HV7.out.putPair (.slice p7 n7 q7) (.slice p9 n9 q9) k0 k1)
  have HVB := Hid.mk' (HV9.out.putPair (.slice p7 n7 q7) (.slice p9 n9 q9) k0 k1)
  refine wpAnyH_done (by kernel_rfl) ?_ _
  refine ahead_last rfl (fun K hK => ?_)
  go_simp
  refine hK _ _ ?_
  clear hK K
  go_wp2_with fail
  refine bodyPost_ret (v := .agg #[.slice p7 n7 q7, .slice p9 n9 q9]) (by simp [results, Tryz.results28, go_sem, g1, g2]) rfl ⟨_, _, _, _, _, _, rfl, HVA.out, HVB.out, ?_⟩
  exact (HBF.out.setCell (by show w.heap.size ≤ w.heap.size + 1 + 1; omega) _).setCell (by show w.heap.size ≤ w.heap.size + 1 + 1; omega) _
end Go.Proofs.YtkglaiigoogapaaGreatDoor

/- lempel.behind. -/
namespace Go.Proofs.YtkglaiigoogapaaGreatDoor
open Go.RowKit

def wbyteCells (l : List UInt8) : List Value := l.map fun c => .int .u8 ((c.toNat : Nat) : Int)
theorem wnil_text (wr : World) : (convert 72 9 (.slice none 0 0)).run Tryz.prog wr = .ok (.string ⟨#[]⟩) wr := by
  unfold convert
  simp [Sem.run_bind]
  rfl
theorem wrow_text {wr : World} {B j : Nat} {d : Value} {l : List UInt8} (h : wr.ownsRow B 5 1 d j (wbyteCells l)) : (convert 72 9 d).run Tryz.prog wr = .ok (.string ⟨l.toArray⟩) wr := by
  have hl : l.length = j := by have := h.1; simpa [wbyteCells] using this
  rcases h.2 with ⟨rfl, h0⟩ | ⟨g, cap, cur, rfl, hb, hg, _⟩
  · rw [List.eq_nil_of_length_eq_zero (hl.trans h0)]; exact wnil_text wr
  · have h1 := run_convert_bytes_arg (P := Tryz.prog) wr 72 5 Tryz.underlying72 Tryz.underlying5 g 0 j cap (l.map fun c => (c.toNat : Int)) (by rw [List.length_map, hl]) (fun i hi => by
      rw [Nat.zero_add, h.cellAt i (by omega)]
      simp [wbyteCells, List.getD, hl, hi]) 9 Tryz.underlying9
    rw [h1, strOfNums, List.map_map, show ((fun n : Int => UInt8.ofNat n.toNat) ∘ fun c : UInt8 => (c.toNat : Int)) = id from funext fun c => by simp, List.map_id]
theorem Tryz.infoB : (Tryz.prog.info? 5).map (fun i => (i.zero, i.size, i.bytes)) = some (some (.int .u8 0), 1, 1) := by kernel_rfl
theorem wlst_size (a : ByteArray) : a.data.toList.length = a.size := by rw [Array.length_toList]; rfl
theorem wsuf {R c : ByteArray} {i : Nat} (hi : i ≤ R.size) : Lib.hasSuffix (R.extract 0 i).data.toList c.data.toList = decide (R.extract (i - c.size) i = c) := by
  have e1 : (R.extract 0 i).data.toList = R.data.toList.take i := by
    rw [ByteArray.data_extract, Array.toList_extract, List.extract_eq_take_drop]; simp
  have e2 : (R.extract (i - c.size) i).data.toList = (R.data.toList.take i).drop (i - c.size) := by
    rw [ByteArray.data_extract, Array.toList_extract, List.extract_eq_take_drop, List.drop_take]
  rw [e1]
  unfold Lib.hasSuffix
  rw [Bool.eq_iff_iff, List.isSuffixOf_iff_suffix, decide_eq_true_eq, List.suffix_iff_eq_drop]
  have hl : (R.data.toList.take i).length = i := by rw [List.length_take, wlst_size]; omega
  rw [hl, wlst_size, ← e2]
  constructor
  · intro h
    have h2 : (R.extract (i - c.size) i).data = c.data := Array.toList_inj.1 h.symm
    exact ByteArray.ext h2
  · intro h; rw [h]
theorem wpush {R : ByteArray} {i : Nat} (hi : i < R.size) (l : List UInt8) (b : ByteArray) (h : (⟨l.toArray⟩ : ByteArray) = b) : (⟨(l ++ [R[i]'hi]).toArray⟩ : ByteArray) = b ++ R.extract i (i + 1) := by
  subst h
  refine ByteArray.ext ?_
  rw [ByteArray.data_append, ByteArray.data_extract]
  refine Array.toList_inj.1 ?_
  rw [Array.toList_append, Array.toList_extract, List.extract_eq_take_drop]
  show l ++ [R[i]] = l ++ (R.data.toList.drop i).take (i + 1 - i)
  rw [show i + 1 - i = 1 by omega, List.drop_eq_getElem_cons (by rw [wlst_size]; exact hi)]
  simp
  rfl

set_option maxRecDepth 100000 in
set_option maxHeartbeats 2000000 in
theorem behind_any (R c : ByteArray) (d : Nat) (w : World) (hd : d ≤ R.size) (hR : R.size ≤ 28) :
    Calls Tryz.prog 27 #[.string R, .int .i64 d, .string c] w fun e w' => e = .returned (.string (bhd R d c (R.size - d))) ∧ Below w.heap.size w w' := by
  obtain ⟨i0, hi, hz0, hz1, hz2⟩ := info_parts Tryz.infoB
  have HINF : Hid (Tryz.prog.info? 5 = some i0 ∧ i0.zero = some (.int .u8 0) ∧ i0.size = 1 ∧ i0.bytes = 1) := ⟨hi, hz0, hz1, hz2⟩
  clear hi hz0 hz1 hz2
  have hdI : (d : Int) ≤ (R.size : Int) := by omega
  have hRI : (R.size : Int) ≤ 28 := by omega
  have hd0 : (0 : Int) ≤ (d : Int) := by omega
  have HHS : Hid (∀ W i, d ≤ i → i < R.size → Calls Tryz.prog 52 #[.string (R.extract 0 i), .string c] W fun e w' => e = .returned (.bool (decide (R.extract (i - c.size) i = c))) ∧ w' = W) := fun W i h1 h2 => by
    have := Any.strings_HasSuffix Tryz.hasSuffixA (R.extract 0 i) c W (by rw [ByteArray.size_extract]; omega)
    rw [wsuf (by omega)] at this
    exact this
  go_enter Tryz.func27, Tryz.ntmps27
  go_wp2_with fail
  go_loopw [7, 8] (fun u i wr => ∃ (k : Nat) (l : List UInt8), d + k ≤ R.size ∧ i = .int .i64 ((d : Int) + (k : Int)) ∧ l.length ≤ k ∧ Hid (wr.ownsRow w.heap.size 5 1 u l.length (wbyteCells l)) ∧ Hid ((⟨l.toArray⟩ : ByteArray) = bhd R d c k) ∧ Hid (Below w.heap.size w wr)) (fun _ i _ => R.size - (intOf i).toNat)
  case atStart => exact ⟨0, [], by omega, by simp, Nat.le_refl _, ⟨rfl, Or.inl ⟨rfl, rfl⟩⟩, rfl, Below.refl _ _⟩
  case round =>
    obtain ⟨k, l, hk, rfl, hl, HO, HL, HB⟩ := hrel
    have hk0 : (0 : Int) ≤ (k : Int) := by omega
    rcases Nat.lt_or_ge (d + k) R.size with h1 | h1
    · have hkI : (d : Int) + (k : Int) < (R.size : Int) := by omega
      have HH := Hid.mk' (HHS.out wr (d + k) (by omega) h1)
      obtain ⟨i, hii⟩ : ∃ i : Nat, i = d + k := ⟨_, rfl⟩
      have hiI : (d : Int) + (k : Int) = (i : Int) := by omega
      rw [← hii] at HH h1
      rw [hiI] at hkI ⊢
      have HII := Hid.mk' hii
      clear hii hiI
      by_cases hx : R.extract (i - c.size) i = c
      · rw [decide_eq_true hx] at HH
        have HYS : Hid (bhd R d c (k + 1) = bhd R d c k ++ R.extract i (i + 1)) := by show _ = _; have := HII.out; subst this; exact bhd_yes hx
        have HPS := Hid.mk' (wpush h1 l _ HL.out)
        clear hx
        go_wp2_with fail
        refine HH.out.mono ?_
        rintro e w2 ⟨rfl, hw2⟩
        rw [hw2]
        clear hw2 w2
        go_wp2_with (at_builtin; go_must (refine wpList_append_lies _ rfl _ _ _ rfl w.heap.size 5 i0 _ 1 1 Tryz.underlying72 HINF.out.1 HINF.out.2.1 HINF.out.2.2.1 HINF.out.2.2.2 rfl (by omega) u7 _ _ rfl (HO.out.alloc _) ⟨wr.heap.size, 0, none⟩ 1 1 [.int .u8 (((R[i]'h1).toNat : Nat) : Int)] rfl rfl (one_new _ _ _) (by simp [Value.oneCell']) (by omega) (by unfold maxLen; omega) (by omega) (by have := HB.out.size; simp; omega) _ rfl ?_; intro g' cap' w3 hown3 hgrow3 hat3 hlt3; have HO3 := Hid.mk' hown3; have HG3 := Hid.mk' hgrow3; clear hown3 hgrow3 hat3))
        refine ⟨⟨k + 1, l ++ [R[i]'h1], by have := HII.out; omega, by have := HII.out; go_num, by simp; omega, ?_, ?_, below_push HB.out HO.out HG3.out⟩, by have := HII.out; simp [intOf]; omega⟩
        · show World.ownsRow _ _ _ _ _ _ _
          have := HO3.out
          simpa [wbyteCells] using this
        · show _ = _
          rw [HPS.out, HYS.out]
      · rw [decide_eq_false hx] at HH
        have HYS : Hid (bhd R d c (k + 1) = bhd R d c k) := by show _ = _; have := HII.out; subst this; exact bhd_no hx
        clear hx
        go_wp2_with fail
        refine HH.out.mono ?_
        rintro e w2 ⟨rfl, hw2⟩
        rw [hw2]
        clear hw2 w2
        go_wp2_with fail
        exact ⟨⟨k + 1, l, by have := HII.out; omega, by have := HII.out; go_num, by omega, HO.out, by show _ = _; rw [HYS.out]; exact HL.out, HB.out⟩, by have := HII.out; simp [intOf]; omega⟩
    · have hkI : ¬ ((d : Int) + (k : Int) < (R.size : Int)) := by omega
      have HKE : Hid (R.size - d = k) := by show _ = _; omega
      have hcv := wrow_text HO.out
      go_wp2_with fail
      go_ret
      exact ⟨by rw [HKE.out, ← HL.out]; rfl, HB.out⟩
end Go.Proofs.YtkglaiigoogapaaGreatDoor

/- lempel.Weighted: the closure that weighs. -/
namespace Go.Proofs.YtkglaiigoogapaaGreatDoor
open Go.RowKit

/-- What the closure sees. -/
structure WgAt (W : World) (rb db fb : Nat) (R : ByteArray) (d : Nat) : Prop where
  cr : W.cell? ⟨rb, 0, none⟩ = some (.string R)
  cd : W.cell? ⟨db, 0, none⟩ = some (.int .i64 (d : Int))
  cf : W.cell? ⟨fb, 0, none⟩ = some (.func (.func 25) #[] #[.pointer (some ⟨rb, 0, none⟩), .pointer (some ⟨db, 0, none⟩), .pointer (some ⟨fb, 0, none⟩)])
theorem WgAt.later {W X : World} {rb db fb : Nat} {R : ByteArray} {d : Nat} (h : WgAt W rb db fb R d) (hb : Below W.heap.size W X) : WgAt X rb db fb R d :=
  ⟨by rw [hb.cell (cell_lt h.cr)]; exact h.cr, by rw [hb.cell (cell_lt h.cd)]; exact h.cd, by rw [hb.cell (cell_lt h.cf)]; exact h.cf⟩
set_option maxRecDepth 100000 in
set_option maxHeartbeats 8000000 in
theorem weigh_any (R : ByteArray) (d rb db fb : Nat) (hdR : d ≤ R.size) (hR : R.size ≤ 28) (hn : R.size - d ≤ 24) (hd : d ≤ 4) (hbits : BitsA R) : ∀ (m : Nat) (c : ByteArray) (W : World), c.size + m = d → WgAt W rb db fb R d → Calls Tryz.prog 25 #[.string c, .pointer (some ⟨rb, 0, none⟩), .pointer (some ⟨db, 0, none⟩), .pointer (some ⟨fb, 0, none⟩)] W fun e w' => ∃ x0 l0 c0 x1 l1 c1, e = .returned (.agg #[.slice x0 l0 c0, .slice x1 l1 c1]) ∧ NatAt w' (.slice x0 l0 c0) (wg R d (R.size - d) m c).1 ∧ NatAt w' (.slice x1 l1 c1) (wg R d (R.size - d) m c).2 ∧ Below W.heap.size W w' := by
  intro m
  induction m with
  | zero =>
    intro c W hc hg
    obtain ⟨W0, hW0⟩ : ∃ W0, W0 = W.alloc (.cells #[.slice none 0 0, .slice none 0 0] 63) := ⟨_, rfl⟩
    have hb0 : Below W.heap.size W W0 := by rw [hW0]; exact new_below _ _
    have HRB : Hid (∀ X, Below W0.heap.size W0 X → X.cell? ⟨W.heap.size, 0, none⟩ = some (.slice none 0 0) ∧ X.cell? ⟨W.heap.size, 1, none⟩ = some (.slice none 0 0) ∧ X.frozen? ⟨W.heap.size, 0, none⟩ = false ∧ X.frozen? ⟨W.heap.size, 1, none⟩ = false) := fun X hb => by
      rw [hW0] at hb
      exact res_past hb
    have HG : Hid (∀ X, Below W0.heap.size W0 X → WgAt X rb db fb R d) := fun X hb => hg.later (below_chain hb0 hb)
    have HB0 := Hid.mk' hb0
    have HBH := Hid.mk' (fun X => behind_any R c d X hdR hR)
    have HLE := Hid.mk' (fun X => learnt_any (bhd R d c (R.size - d)) X (by have := bhd_size R d c (R.size - d); omega) (bhd_bits hbits d c _))
    have cr := hg.cr
    have cd := hg.cd
    have hdI : (d : Int) ≤ 4 := by omega
    have e0 : W0.cell? ⟨rb, 0, none⟩ = some (.string R) := (HG.out _ (Below.refl _ _)).cr
    have e1 : W0.cell? ⟨db, 0, none⟩ = some (.int .i64 (d : Int)) := (HG.out _ (Below.refl _ _)).cd
    have HLW : Hid (lnN (bhd R d c (R.size - d)) (bhd R d c (R.size - d)).size ≤ wE 4 ∧ lnD (bhd R d c (R.size - d)).size ≤ wE 4) := by
      have h1 := wg_ok R d (R.size - d) hn 0 c
      have h2 := wE_mono 0 (by decide)
      exact ⟨Nat.le_trans h1.2.1 (Nat.le_trans h1.2.2 h2), Nat.le_trans h1.2.2 h2⟩
    have HW0 := Hid.mk' hW0
    clear hb0 hW0 hg cr cd
    go_enter Tryz.func25, Tryz.ntmps25
    go_upto_region 1 with fail
    rw [← HW0.out]
    clear HW0
    go_wp2_with fail
    refine (HBH.out _).mono ?_
    rintro e w1 ⟨rfl, hb1⟩
    have HB1 := Hid.mk' hb1
    clear hb1
    go_wp2_with fail
    refine (HLE.out _).mono ?_
    rintro e w2 ⟨x2, l2, c2, y2, m2, d2, rfl, hn2, hd2, hb2⟩
    have hcur := below_chain (below_chain HB1.out hb2) (new_below w2 (.cells #[.slice x2 l2 c2, .slice y2 m2 d2] 63))
    have HN2 := Hid.mk' (hn2.later (new_below w2 (.cells #[.slice x2 l2 c2, .slice y2 m2 d2] 63)))
    have HD2 := Hid.mk' (hd2.later (new_below w2 (.cells #[.slice x2 l2 c2, .slice y2 m2 d2] 63)))
    have HAB : Hid (∀ X, Below (w2.alloc (.cells #[.slice x2 l2 c2, .slice y2 m2 d2] 63)).heap.size (w2.alloc (.cells #[.slice x2 l2 c2, .slice y2 m2 d2] 63)) X → X.cell? ⟨w2.heap.size, 0, none⟩ = some (.slice x2 l2 c2) ∧ X.cell? ⟨w2.heap.size, 1, none⟩ = some (.slice y2 m2 d2)) := fun X hb => by
      have := res_past hb
      exact ⟨this.1, this.2.1⟩
    have e2 : (w2.alloc (.cells #[.slice x2 l2 c2, .slice y2 m2 d2] 63)).cell? ⟨db, 0, none⟩ = some (.int .i64 (d : Int)) := (HG.out _ hcur).cd
    clear hn2 hd2 hb2 e0 e1
    obtain ⟨k0, k1, f0, f1⟩ := HRB.out _ hcur
    obtain ⟨g0, g1, g2⟩ := put_two (.slice x2 l2 c2) (.slice y2 m2 d2) k0 k1
    have HBF := Hid.mk' (below_chain HB0.out hcur)
    have HVA := Hid.mk' (HN2.out.putPair (.slice x2 l2 c2) (.slice y2 m2 d2) k0 k1)
    have HVB := Hid.mk' (HD2.out.putPair (.slice x2 l2 c2) (.slice y2 m2 d2) k0 k1)
    have hcb : ((c.size : Int) == (d : Int)) = true := by simp; omega
    obtain ⟨z0, z1⟩ := HAB.out _ (Below.refl _ _)
    go_wp2_with fail
    refine bodyPost_ret (v := .agg #[.slice x2 l2 c2, .slice y2 m2 d2]) (by simp [results, Tryz.results25, go_sem, g1, g2]) rfl ⟨_, _, _, _, _, _, rfl, ?_, ?_, ?_⟩
    · exact HVA.out
    · exact HVB.out
    · exact (HBF.out.setCell (Nat.le_refl _) _).setCell (Nat.le_refl _) _
  | succ m ih =>
    intro c W hc hg
    obtain ⟨W0, hW0⟩ : ∃ W0, W0 = W.alloc (.cells #[.slice none 0 0, .slice none 0 0] 63) := ⟨_, rfl⟩
    have hb0 : Below W.heap.size W W0 := by rw [hW0]; exact new_below _ _
    have HRB : Hid (∀ X, Below W0.heap.size W0 X → X.cell? ⟨W.heap.size, 0, none⟩ = some (.slice none 0 0) ∧ X.cell? ⟨W.heap.size, 1, none⟩ = some (.slice none 0 0) ∧ X.frozen? ⟨W.heap.size, 0, none⟩ = false ∧ X.frozen? ⟨W.heap.size, 1, none⟩ = false) := fun X hb => by
      rw [hW0] at hb
      exact res_past hb
    have HG : Hid (∀ X, Below W0.heap.size W0 X → WgAt X rb db fb R d) := fun X hb => hg.later (below_chain hb0 hb)
    have HB0 := Hid.mk' hb0
    have HBH := Hid.mk' (fun X => behind_any R c d X hdR hR)
    have HLE := Hid.mk' (fun X => learnt_any (bhd R d c (R.size - d)) X (by have := bhd_size R d c (R.size - d); omega) (bhd_bits hbits d c _))
    have cr := hg.cr
    have cd := hg.cd
    have hdI : (d : Int) ≤ 4 := by omega
    have e0 : W0.cell? ⟨rb, 0, none⟩ = some (.string R) := (HG.out _ (Below.refl _ _)).cr
    have e1 : W0.cell? ⟨db, 0, none⟩ = some (.int .i64 (d : Int)) := (HG.out _ (Below.refl _ _)).cd
    have HLW : Hid (lnN (bhd R d c (R.size - d)) (bhd R d c (R.size - d)).size ≤ wE 4 ∧ lnD (bhd R d c (R.size - d)).size ≤ wE 4) := by
      have h1 := wg_ok R d (R.size - d) hn 0 c
      have h2 := wE_mono 0 (by decide)
      exact ⟨Nat.le_trans h1.2.1 (Nat.le_trans h1.2.2 h2), Nat.le_trans h1.2.2 h2⟩
    have hx := wg_ok R d (R.size - d) hn m (⟨#[48]⟩ ++ c)
    have hy := wg_ok R d (R.size - d) hn m (⟨#[49]⟩ ++ c)
    have hm4 := wE_mono m (by omega)
    have hm5 : 50 ^ 24 * (wE m * wE m) * 2 ≤ wE 4 := wE_mono (m + 1) (by omega)
    have HX := Hid.mk' (And.intro (Nat.le_trans hx.2.1 (Nat.le_trans hx.2.2 hm4)) (Nat.le_trans hx.2.2 hm4))
    have HY := Hid.mk' (And.intro (Nat.le_trans hy.2.1 (Nat.le_trans hy.2.2 hm4)) (Nat.le_trans hy.2.2 hm4))
    have hpr : (wg R d (R.size - d) m (⟨#[48]⟩ ++ c)).2 * (wg R d (R.size - d) m (⟨#[49]⟩ ++ c)).2 ≤ wE 4 := by
      refine Nat.le_trans (Nat.mul_le_mul hx.2.2 hy.2.2) (Nat.le_trans ?_ hm5)
      have h5 : wE m * wE m ≤ 50 ^ 24 * (wE m * wE m) := Nat.le_mul_of_pos_left _ (by decide)
      omega
    have HPR := Hid.mk' hpr
    have HPN : Hid ((wg R d (R.size - d) m (⟨#[48]⟩ ++ c)).1 * (wg R d (R.size - d) m (⟨#[49]⟩ ++ c)).1 ≤ wE 4) := Nat.le_trans (Nat.mul_le_mul hx.2.1 hy.2.1) hpr
    have HI0 := Hid.mk' (fun X (hb : Below W0.heap.size W0 X) => ih (⟨#[48]⟩ ++ c) X (by rw [ByteArray.size_append]; show 1 + c.size + m = d; omega) (HG.out X hb))
    have HI1 := Hid.mk' (fun X (hb : Below W0.heap.size W0 X) => ih (⟨#[49]⟩ ++ c) X (by rw [ByteArray.size_append]; show 1 + c.size + m = d; omega) (HG.out X hb))
    have HWG : Hid (wg R d (R.size - d) (m + 1) c = (lnN (bhd R d c (R.size - d)) (bhd R d c (R.size - d)).size * ((wg R d (R.size - d) m (⟨#[48]⟩ ++ c)).2 * (wg R d (R.size - d) m (⟨#[49]⟩ ++ c)).2) + (wg R d (R.size - d) m (⟨#[48]⟩ ++ c)).1 * (wg R d (R.size - d) m (⟨#[49]⟩ ++ c)).1 * lnD (bhd R d c (R.size - d)).size, lnD (bhd R d c (R.size - d)).size * ((wg R d (R.size - d) m (⟨#[48]⟩ ++ c)).2 * (wg R d (R.size - d) m (⟨#[49]⟩ ++ c)).2) * 2)) := rfl
    clear hx hy hm4 hm5 hpr ih
    generalize wg R d (R.size - d) m (⟨#[48]⟩ ++ c) = P0 at *
    generalize wg R d (R.size - d) m (⟨#[49]⟩ ++ c) = P1 at *
    have HW0 := Hid.mk' hW0
    clear hb0 hW0 hg cr cd
    go_enter Tryz.func25, Tryz.ntmps25
    go_upto_region 1 with fail
    rw [← HW0.out]
    clear HW0
    go_wp2_with fail
    refine (HBH.out _).mono ?_
    rintro e w1 ⟨rfl, hb1⟩
    have HB1 := Hid.mk' hb1
    clear hb1
    go_wp2_with fail
    refine (HLE.out _).mono ?_
    rintro e w2 ⟨x2, l2, c2, y2, m2, d2, rfl, hn2, hd2, hb2⟩
    have hcur := below_chain (below_chain HB1.out hb2) (new_below w2 (.cells #[.slice x2 l2 c2, .slice y2 m2 d2] 63))
    have HN2 := Hid.mk' (hn2.later (new_below w2 (.cells #[.slice x2 l2 c2, .slice y2 m2 d2] 63)))
    have HD2 := Hid.mk' (hd2.later (new_below w2 (.cells #[.slice x2 l2 c2, .slice y2 m2 d2] 63)))
    have HAB : Hid (∀ X, Below (w2.alloc (.cells #[.slice x2 l2 c2, .slice y2 m2 d2] 63)).heap.size (w2.alloc (.cells #[.slice x2 l2 c2, .slice y2 m2 d2] 63)) X → X.cell? ⟨w2.heap.size, 0, none⟩ = some (.slice x2 l2 c2) ∧ X.cell? ⟨w2.heap.size, 1, none⟩ = some (.slice y2 m2 d2)) := fun X hb => by
      have := res_past hb
      exact ⟨this.1, this.2.1⟩
    have e2 : (w2.alloc (.cells #[.slice x2 l2 c2, .slice y2 m2 d2] 63)).cell? ⟨db, 0, none⟩ = some (.int .i64 (d : Int)) := (HG.out _ hcur).cd
    clear hn2 hd2 hb2 e0 e1
    have hcb : ((c.size : Int) == (d : Int)) = false := by simp; omega
    go_wp2_with fail
    have HKS : Hid (∀ X, Below W0.heap.size W0 X → Below (w2.alloc (.cells #[.slice x2 l2 c2, .slice y2 m2 d2] 63)).heap.size (w2.alloc (.cells #[.slice x2 l2 c2, .slice y2 m2 d2] 63)) X → (X.cell? ⟨w2.heap.size, 0, none⟩ = some (.slice x2 l2 c2) ∧ X.cell? ⟨w2.heap.size, 1, none⟩ = some (.slice y2 m2 d2) ∧ X.cell? ⟨fb, 0, none⟩ = some (.func (.func 25) #[] #[.pointer (some ⟨rb, 0, none⟩), .pointer (some ⟨db, 0, none⟩), .pointer (some ⟨fb, 0, none⟩)]))) := fun X h1 h2 => ⟨(HAB.out X h2).1, (HAB.out X h2).2, (HG.out X h1).cf⟩
    clear e2
    generalize w2.alloc (.cells #[.slice x2 l2 c2, .slice y2 m2 d2] 63) = W3 at *
    have hcu : Below W3.heap.size W3 W3.drew := (Below.refl _ _).drew
    have HC3 := Hid.mk' hcur
    have hcur : Below W3.heap.size W3 W3.drew := hcu
    clear hcu
    refine region_but_last (n := 11) (S := fun X => X.cell? ⟨w2.heap.size, 0, none⟩ = some (.slice x2 l2 c2) ∧ X.cell? ⟨w2.heap.size, 1, none⟩ = some (.slice y2 m2 d2) ∧ X.cell? ⟨fb, 0, none⟩ = some (.func (.func 25) #[] #[.pointer (some ⟨rb, 0, none⟩), .pointer (some ⟨db, 0, none⟩), .pointer (some ⟨fb, 0, none⟩)])) (by kernel_rfl) (by kernel_rfl) (by kernel_rfl) (HKS.out _ (below_chain HC3.out hcur) hcur) (fun hHeld => ?_)
    have HN2 := Hid.mk' (HN2.out.later hcur)
    have HD2 := Hid.mk' (HD2.out.later hcur)
    have hcs : ¬ (9223372036854775807 < 1 + c.size) := by omega
    refine wpAnyH_take (i := 0) (v := ?v0g1) rfl (by kernel_rfl) (by kernel_rfl) (by kernel_rfl) (fun _ _ _ h => h) (Or.inl ⟨by rfl, ?hy0g1⟩) (by assumption) ?rest0g1
    case hy0g1 => (intro w hSw; (try dsimp only at hSw); go_simp <;> (try with_reducible rfl))
    simp only [Act.put]
    refine wpAnyH_take (i := 1) (v := ?v1g2) rfl (by kernel_rfl) (by kernel_rfl) (by kernel_rfl) (fun _ _ _ h => h) (Or.inl ⟨by rfl, ?hy1g2⟩) (by assumption) ?rest1g2
    case hy1g2 => (intro w hSw; (try dsimp only at hSw); go_simp <;> (try with_reducible rfl))
    simp only [Act.put]
    refine wpAnyH_take (i := 2) (v := ?v2g3) rfl (by kernel_rfl) (by kernel_rfl) (by kernel_rfl) (fun _ _ _ h => h) (Or.inl ⟨by rfl, ?hy2g3⟩) (by assumption) ?rest2g3
    case hy2g3 => (intro w hSw; (try dsimp only at hSw); go_simp <;> (try with_reducible rfl))
    simp only [Act.put]
    refine wpAnyH_take (i := 3) (v := ?v3g4) rfl (by kernel_rfl) (by kernel_rfl) (by kernel_rfl) (fun _ _ _ h => h) (Or.inl ⟨by rfl, ?hy3g4⟩) (by assumption) ?rest3g4
    case hy3g4 => (intro w hSw; (try dsimp only at hSw); go_simp <;> first | with_reducible rfl | rw [if_neg hcs])
    simp only [Act.put]
    refine wpAnyH_take (i := 5) (v := ?v5g5) rfl (by kernel_rfl) (by kernel_rfl) (by kernel_rfl) (fun _ _ _ h => h) (Or.inl ⟨by rfl, ?hy5g5⟩) (by assumption) ?rest5g5
    case hy5g5 => (intro w hSw; (try dsimp only at hSw); go_simp <;> (try with_reducible rfl))
    simp only [Act.put]
    refine wpAnyH_take (i := 6) (v := ?v6g6) rfl (by kernel_rfl) (by kernel_rfl) (by kernel_rfl) (fun _ _ _ h => h) (Or.inl ⟨by rfl, ?hy6g6⟩) (by assumption) ?rest6g6
    case hy6g6 => (intro w hSw; (try dsimp only at hSw); go_simp <;> (try with_reducible rfl))
    simp only [Act.put]
    refine wpAnyH_take (i := 7) (v := ?v7g7) rfl (by kernel_rfl) (by kernel_rfl) (by kernel_rfl) (fun _ _ _ h => h) (Or.inl ⟨by rfl, ?hy7g7⟩) (by assumption) ?rest7g7
    case hy7g7 => (intro w hSw; (try dsimp only at hSw); go_simp <;> first | with_reducible rfl | rw [if_neg hcs])
    simp only [Act.put]
    refine wpAnyH_ready (rs := [4]) (by kernel_rfl) (by simp) ?_
    refine AllReadyH.cons rfl (fun K hK => ?_) AllReadyH.nil
    go_simp
    refine (HI0.out _ (below_chain HC3.out hcur)).mono ?_
    rintro e w4 ⟨x4, l4, c4, y4, m4, d4, rfl, hn4, hd4, hb4⟩
    have hcur := below_chain hcur hb4
    have HN4 := Hid.mk' hn4
    have HD4 := Hid.mk' hd4
    have HN2 := Hid.mk' (HN2.out.later hb4)
    have HD2 := Hid.mk' (HD2.out.later hb4)
    clear hn4 hd4 hb4
    go_wp2_with fail
    refine hK.out _ _ ?_ (fun hHeld => ?_)
    · exact HKS.out _ (below_chain HC3.out hcur) hcur
    clear hK K
    refine wpAnyH_ready (rs := [8]) (by kernel_rfl) (by simp) ?_
    refine AllReadyH.cons rfl (fun K hK => ?_) AllReadyH.nil
    go_simp
    refine (HI1.out _ (below_chain HC3.out hcur)).mono ?_
    rintro e w5 ⟨x5, l5, c5, y5, m5, d5, rfl, hn5, hd5, hb5⟩
    have hcur := below_chain hcur hb5
    have HN5 := Hid.mk' hn5
    have HD5 := Hid.mk' hd5
    have HN2 := Hid.mk' (HN2.out.later hb5)
    have HD2 := Hid.mk' (HD2.out.later hb5)
    have HN4 := Hid.mk' (HN4.out.later hb5)
    have HD4 := Hid.mk' (HD4.out.later hb5)
    clear hn5 hd5 hb5
    go_wp2_with fail
    refine hK.out _ _ ?_ (fun hHeld => ?_)
    · exact HKS.out _ (below_chain HC3.out hcur) hcur
    clear hK K
    refine wpAnyH_ready (rs := [9]) (by kernel_rfl) (by simp) ?_
    refine AllReadyH.cons rfl (fun K hK => ?_) AllReadyH.nil
    go_simp
    refine (share_by x4 l4 c4 y4 m4 d4 x5 l5 c5 y5 m5 d5 P0.1 P0.2 P1.1 P1.2 _ HN4.out HD4.out HN5.out HD5.out (wE_room (wE_le1 HX.out.1)).1 (wE_room (wE_le1 HX.out.2)).1 (wE_room (wE_le1 HY.out.1)).1 (wE_room (wE_le1 HY.out.2)).1).mono ?_
    rintro e w6 ⟨x6, l6, c6, y6, m6, d6, rfl, hn6, hd6, hb6⟩
    have hcur := below_chain hcur hb6
    have HN6 := Hid.mk' hn6
    have HD6 := Hid.mk' hd6
    have HN2 := Hid.mk' (HN2.out.later hb6)
    have HD2 := Hid.mk' (HD2.out.later hb6)
    clear hn6 hd6 hb6
    go_wp2_with fail
    refine hK.out _ _ ?_ (fun hHeld => ?_)
    · exact HKS.out _ (below_chain HC3.out hcur) hcur
    clear hK K
    refine wpAnyH_ready (rs := [10]) (by kernel_rfl) (by simp) ?_
    refine AllReadyH.cons rfl (fun K hK => ?_) AllReadyH.nil
    go_simp
    refine (share_mean x2 l2 c2 y2 m2 d2 x6 l6 c6 y6 m6 d6 _ _ (P0.1 * P1.1) (P0.2 * P1.2) _ HN2.out HD2.out HN6.out HD6.out (wE_room (wE_le1 HLW.out.1)).1 (wE_room (wE_le1 HLW.out.2)).1 (wE_room (wE_le1 HPN.out)).1 (wE_room (wE_le1 HPR.out)).1 (wE_room (wE_le2 HLW.out.1 HPR.out)).1 (wE_room (wE_le2 HPN.out HLW.out.2)).1 (wE_room (wE_le2 HLW.out.2 HPR.out)).1).mono ?_
    rintro e w7 ⟨x7, l7, c7, y7, m7, d7, rfl, hn7, hd7, hb7⟩
    have hcur := below_chain hcur hb7
    have HN7 := Hid.mk' hn7
    have HD7 := Hid.mk' hd7
    clear hn7 hd7 hb7
    go_wp2_with fail
    refine hK.out _ _ ?_ (fun hHeld => ?_)
    · exact HKS.out _ (below_chain HC3.out hcur) hcur
    clear hK K
    have HCF := Hid.mk' (below_chain HC3.out hcur)
    obtain ⟨k0, k1, f0, f1⟩ := HRB.out _ HCF.out
    obtain ⟨g0, g1, g2⟩ := put_two (.slice x7 l7 c7) (.slice y7 m7 d7) k0 k1
    have HBF := Hid.mk' (below_chain HB0.out HCF.out)
    have HVA := Hid.mk' (HN7.out.putPair (.slice x7 l7 c7) (.slice y7 m7 d7) k0 k1)
    have HVB := Hid.mk' (HD7.out.putPair (.slice x7 l7 c7) (.slice y7 m7 d7) k0 k1)
    refine wpAnyH_done (by kernel_rfl) ?_ _
    refine ahead_last rfl (fun K hK => ?_)
    go_simp
    refine hK _ _ ?_
    clear hK K
    go_wp2_with fail
    refine bodyPost_ret (v := .agg #[.slice x7 l7 c7, .slice y7 m7 d7]) (by simp [results, Tryz.results25, go_sem, g1, g2]) rfl ⟨_, _, _, _, _, _, rfl, ?_, ?_, ?_⟩
    · rw [HWG.out]; exact HVA.out
    · rw [HWG.out]; exact HVB.out
    · exact (HBF.out.setCell (Nat.le_refl _) _).setCell (Nat.le_refl _) _
end Go.Proofs.YtkglaiigoogapaaGreatDoor

/- What is told of great fractions. -/
namespace Go.Proofs.YtkglaiigoogapaaGreatDoor
open Go.RowKit

set_option maxRecDepth 100000 in
set_option maxHeartbeats 2000000 in
theorem RTold_notK (v : Value) (m d kk : Nat) (w : World) (h : RatioAt w v (m : Int) d) (hm : m < 1000000 ^ kk) (hd : d < 1000000 ^ kk) (hk4 : 4 ≤ kk) (hk6 : kk ≤ 1000) (hbig : 4611686018427387904 < m ∨ 4611686018427387904 < d) :
    Calls Tryz.prog 19 #[v] w fun e w' => e = .returned (.tuple #[.agg #[.int .i64 0, .int .i64 0], .bool false]) ∧ Below w.heap.size w w' := by
  obtain ⟨u, q, rfl, hu, hq⟩ := h
  rw [Int.natAbs_natCast] at hu
  rw [decide_eq_false (show ¬ (m : Int) < 0 by omega)]
  obtain ⟨ad1, l1, cap1, rfl, _⟩ := hu.len
  obtain ⟨ad2, l2, cap2, rfl, _⟩ := hq.len
  obtain ⟨W0, hW0⟩ : ∃ W0, W0 = (w.alloc (.cells #[.bool false, .slice ad1 l1 cap1, .slice ad2 l2 cap2] 33)).alloc (.cells #[.int .i64 0, .int .i64 0] 25) := ⟨_, rfl⟩
  have hb0 : Below w.heap.size w W0 := by rw [hW0]; exact below_chain (new_below _ _) (new_below _ _)
  have HKS : Hid (∀ W, Below W0.heap.size W0 W → (W.cell? ⟨w.heap.size, 0, none⟩ = some (.bool false) ∧ W.cell? ⟨w.heap.size, 1, none⟩ = some (.slice ad1 l1 cap1) ∧ W.cell? ⟨w.heap.size, 2, none⟩ = some (.slice ad2 l2 cap2)) ∧ (W.cell? ⟨w.heap.size + 1, 0, none⟩ = some (.int .i64 0) ∧ W.cell? ⟨w.heap.size + 1, 1, none⟩ = some (.int .i64 0)) ∧ W.frozen? ⟨w.heap.size + 1, 0, none⟩ = false ∧ W.frozen? ⟨w.heap.size + 1, 1, none⟩ = false) := fun W hb => by
    have hr := hb
    rw [hW0] at hr
    have hr2 := res_past hr
    rw [World.size_alloc] at hr2
    have a : ∀ j v, #[Value.bool false, .slice ad1 l1 cap1, .slice ad2 l2 cap2][j]? = some v → W0.cell? ⟨w.heap.size, j, none⟩ = some v := fun j v h => by rw [hW0, World.cell?_alloc_lt _ _ ⟨w.heap.size, j, none⟩ (by simp), World.cell?_alloc_at _ _ _ _ rfl]; exact h
    exact ⟨⟨(cell_past (a 0 _ rfl) hb).2, (cell_past (a 1 _ rfl) hb).2, (cell_past (a 2 _ rfl) hb).2⟩, ⟨hr2.1, hr2.2.1⟩, hr2.2.2⟩
  have HU : Hid (∀ W, Below W0.heap.size W0 W → BigAt W (.slice ad1 l1 cap1) m ∧ BigAt W (.slice ad2 l2 cap2) d) := fun W hb => ⟨(hu.later hb0).later hb, (hq.later hb0).later hb⟩
  have hof : Calls Tryz.prog 40 #[.int .i64 4611686018427387904] W0 fun e w' => ∃ v, e = .returned v ∧ BigAt w' v 4611686018427387904 ∧ Below W0.heap.size W0 w' := BigOf_any 4611686018427387904 W0 (Nat.le_refl _)
  have k4 : (4611686018427387904 : Nat) < 1000000 ^ kk := Nat.lt_of_lt_of_le (show (4611686018427387904 : Nat) < 1000000 ^ 4 by decide) (Nat.pow_le_pow_right (by decide) hk4)
  obtain ⟨z1, hz1⟩ : ∃ z, z = cmpOf m 4611686018427387904 := ⟨_, rfl⟩
  obtain ⟨z2, hz2⟩ : ∃ z, z = cmpOf d 4611686018427387904 := ⟨_, rfl⟩
  have hz12 : 0 < z1 ∨ ¬ 0 < z1 ∧ 0 < z2 := by
    rcases Nat.lt_or_ge 4611686018427387904 m with h | h
    · exact Or.inl (by rw [hz1]; exact cmpOf_up h)
    · refine Or.inr ⟨by rw [hz1]; have := cmpOf_le h; omega, by rw [hz2]; exact cmpOf_up (by omega)⟩
  have HC1 : Hid (∀ (W : World) (v : Value), Below W0.heap.size W0 W → BigAt W v 4611686018427387904 → Calls Tryz.prog 41 #[.slice ad1 l1 cap1, v] W fun e w' => e = .returned (.int .i64 z1) ∧ ∃ m, w' = W.drewN m) := fun W v hb hv => by
    rw [hz1]; exact BigCmp_any _ _ m _ kk W (HU.out W hb).1 hv hm k4 (by omega)
  have HC2 : Hid (∀ (W : World) (v : Value), Below W0.heap.size W0 W → BigAt W v 4611686018427387904 → Calls Tryz.prog 41 #[.slice ad2 l2 cap2, v] W fun e w' => e = .returned (.int .i64 z2) ∧ ∃ m, w' = W.drewN m) := fun W v hb hv => by
    rw [hz2]; exact BigCmp_any _ _ d _ kk W (HU.out W hb).2 hv hd k4 (by omega)
  have HB0 := Hid.mk' hb0
  have HW0 := Hid.mk' hW0
  clear hu hq hb0 hW0 hz1 hz2 k4 hm hd hbig
  go_enter Tryz.func19, Tryz.ntmps19
  go_upto_region 1 with fail
  rw [← HW0.out]
  go_wp2_with fail
  refine hof.mono ?_
  clear hof
  rintro e w1 ⟨v1, rfl, hv1, hb1⟩
  obtain ⟨⟨x0, x1, x2⟩, _, _, _⟩ := HKS.out w1 hb1
  have hc1 := HC1.out w1 v1 hb1 hv1
  go_wp2_with fail
  refine hc1.mono ?_
  rintro e w2 ⟨rfl, m2, hw2⟩
  have hb2 : Below w1.heap.size w1 w2 := by rw [hw2]; exact below_drewN (Below.refl _ _) _
  have hv2 := hv1.later hb2
  have hb02 := below_chain hb1 hb2
  clear hw2 hb1 hv1 hb2 hc1 x0 x1 x2
  rcases hz12 with hz | ⟨hz, hz2⟩
  · obtain ⟨_, ⟨c0, c1⟩, f0, f1⟩ := HKS.out w2 hb02
    have HB3 := Hid.mk' (below_chain HB0.out hb02)
    clear hb02
    go_wp2_with fail
    refine bodyPost_ret (v := .tuple #[.agg #[.int .i64 0, .int .i64 0], .bool false]) (by simp [results, Tryz.results19, go_sem, c0, c1]) rfl ⟨rfl, ?_⟩
    exact (HB3.out.setCell (by show w.heap.size ≤ w.heap.size + 1; omega) _).setCell (by show w.heap.size ≤ w.heap.size + 1; omega) _
  · obtain ⟨⟨x0, x1, x2⟩, _, _, _⟩ := HKS.out w2 hb02
    have hc2 := HC2.out w2 v1 hb02 hv2
    go_wp2_with fail
    refine hc2.mono ?_
    rintro e w3 ⟨rfl, m3, hw3⟩
    have hb3 : Below w2.heap.size w2 w3 := by rw [hw3]; exact below_drewN (Below.refl _ _) _
    have hb03 := below_chain hb02 hb3
    clear hw3 hb02 hv2 hb3 hc2 x0 x1 x2
    obtain ⟨_, ⟨c0, c1⟩, f0, f1⟩ := HKS.out w3 hb03
    have HB3 := Hid.mk' (below_chain HB0.out hb03)
    clear hb03
    go_wp2_with fail
    refine bodyPost_ret (v := .tuple #[.agg #[.int .i64 0, .int .i64 0], .bool false]) (by simp [results, Tryz.results19, go_sem, c0, c1]) rfl ⟨rfl, ?_⟩
    exact (HB3.out.setCell (by show w.heap.size ≤ w.heap.size + 1; omega) _).setCell (by show w.heap.size ≤ w.heap.size + 1; omega) _
set_option maxRecDepth 100000 in
theorem share_toldK (a : Nat → Addr) (x0 x1 : Option Addr) (l0 c0 l1 c1 N D kk : Nat) (p q : Int) (y : Value) (w : World) (hE : Errs w a) (hN : NatAt w (.slice x0 l0 c0) N) (hD : NatAt w (.slice x1 l1 c1) D) (hD0 : 0 < D) (hkN : N < 18446744073709551616 ^ kk) (hkD : D < 18446744073709551616 ^ kk) (hkk : kk ≤ 1000) (hv : toldV a N D = .tuple #[.agg #[.int .i64 p, .int .i64 q], y]) :
    Calls Tryz.prog 30 #[.agg #[.slice x0 l0 c0, .slice x1 l1 c1]] w fun e w' => e = .returned (.tuple #[.agg #[.int .i64 p, .int .i64 q], y]) ∧ Below w.heap.size w w' := by
  obtain ⟨W0, hW0⟩ : ∃ W0, W0 = (w.alloc (.cells #[.slice x0 l0 c0, .slice x1 l1 c1] 63)).alloc (.cells #[.int .i64 0, .int .i64 0] 25) := ⟨_, rfl⟩
  have hb0 : Below w.heap.size w W0 := by rw [hW0]; exact below_chain (new_below _ _) (new_below _ _)
  have HKS : Hid (∀ W, Below W0.heap.size W0 W → (W.cell? ⟨w.heap.size, 0, none⟩ = some (.slice x0 l0 c0) ∧ W.cell? ⟨w.heap.size, 1, none⟩ = some (.slice x1 l1 c1)) ∧ (W.cell? ⟨w.heap.size + 1, 0, none⟩ = some (.int .i64 0) ∧ W.cell? ⟨w.heap.size + 1, 1, none⟩ = some (.int .i64 0)) ∧ W.frozen? ⟨w.heap.size + 1, 0, none⟩ = false ∧ W.frozen? ⟨w.heap.size + 1, 1, none⟩ = false) := fun W hb => by
    have hr := hb
    rw [hW0] at hr
    have hr2 := res_past hr
    rw [World.size_alloc] at hr2
    have a : ∀ j v, #[Value.slice x0 l0 c0, .slice x1 l1 c1][j]? = some v → W0.cell? ⟨w.heap.size, j, none⟩ = some v := fun j v h => by rw [hW0, World.cell?_alloc_lt _ _ ⟨w.heap.size, j, none⟩ (by simp), World.cell?_alloc_at _ _ _ _ rfl]; exact h
    exact ⟨⟨(cell_past (a 0 _ rfl) hb).2, (cell_past (a 1 _ rfl) hb).2⟩, ⟨hr2.1, hr2.2.1⟩, hr2.2.2⟩
  have hT := Told_any a _ _ N D kk W0 (hE.below hb0) (hN.later hb0) (hD.later hb0) hD0 hkN hkD (by omega)
  rw [hv] at hT
  have HB0 := Hid.mk' hb0
  have HW0 := Hid.mk' hW0
  obtain ⟨⟨z0, z1⟩, _⟩ := HKS.out W0 (Below.refl _ _)
  clear hb0 hW0 hE hN hD hkN hkD hv hD0
  go_enter Tryz.func30, Tryz.ntmps30
  go_upto_region 1 with fail
  rw [← HW0.out]
  go_wp2_with fail
  refine hT.mono ?_
  clear hT
  rintro e w1 ⟨rfl, hb1⟩
  obtain ⟨_, ⟨g0, g1⟩, f0, f1⟩ := HKS.out w1 hb1
  have HB3 := Hid.mk' (below_chain HB0.out hb1)
  clear hb1
  go_wp2_with fail
  refine bodyPost_ret (v := .tuple #[.agg #[.int .i64 p, .int .i64 q], y]) (by simp [results, Tryz.results30, go_sem, g0, g1]) rfl ⟨rfl, ?_⟩
  exact (HB3.out.setCell (by show w.heap.size ≤ w.heap.size + 1; omega) _).setCell (by show w.heap.size ≤ w.heap.size + 1; omega) _
end Go.Proofs.YtkglaiigoogapaaGreatDoor
