/- IsingStrip: the law. -/
import Derived.Test.YtoghnbcjkgookaaDoorIsBond
import Derived.Test.YtoghnbcjkgookaaDoorIsStp
import Derived.Test.YtoghnbcjkgookaaDoorIsUn
namespace Go.Proofs.YtoghnbcjkgookaaDoor
open Go.RowKit

set_option maxRecDepth 100000 in
set_option maxHeartbeats 4000000 in
theorem IsingStrip_no (a : Nat → Addr) (h l : Int) (ring : Bool) (w : World) (hE : Errs w a) (hf : ¬ fitsP h l) :
    Calls Tryd.prog 6 #[.int .i64 h, .int .i64 l, .bool ring] w fun e w' => e = .returned (.bool true) ∧ Below w.heap.size w w' := by
  have HPE := Hid.mk' (bond_any a w hE)
  have HSE := Hid.mk' (fun W => stripError_no h l W hf)
  have HST : Hid (∀ W, Below w.heap.size w W → Calls Tryd.prog 21 #[.int .i64 h, .int .i64 l, .bool ring] W fun e w' => e = .returned (.tuple #[.slice none 0 0, errV a 2]) ∧ Below W.heap.size W w') := fun W hb => Strip_no a h l ring W (hE.below hb) hf
  have HCO : Hid (∀ W, Below w.heap.size w W → Calls Tryd.prog 11 #[errV a 2, .int .i64 2] W fun e w' => e = .returned (.bool true) ∧ Below W.heap.size W w') := fun W hb => coded_errV a 2 (by decide) W (hE.below hb)
  have HR2 : Hid (errV a 2 = .iface 106 (.pointer (some (a 1)))) := rfl
  rw [HR2.out] at HST HCO
  clear hE hf
  go_enter Tryd.func6, Tryd.ntmps6
  go_wp2_with fail
  refine HPE.out.mono ?_
  rintro e w2 ⟨rfl, hb2⟩
  have HB2 := Hid.mk' hb2
  clear hb2 HPE
  go_wp2_with fail
  refine (HSE.out _).mono ?_
  rintro e w3 ⟨rfl, hw3⟩
  rw [hw3]
  clear hw3 HSE
  go_wp2_with fail
  refine (HST.out _ HB2.out).mono ?_
  rintro e w5 ⟨rfl, hb5⟩
  have HB5 := Hid.mk' (below_chain HB2.out hb5)
  clear hb5 HST
  go_wp2_with fail
  refine (HCO.out _ HB5.out).mono ?_
  rintro e w7 ⟨rfl, hb7⟩
  have HB7 := Hid.mk' (below_chain HB5.out hb7)
  clear hb7
  go_wp2_with fail
  go_ret
  exact ⟨rfl, HB7.out⟩
set_option maxRecDepth 100000 in
set_option maxHeartbeats 4000000 in
theorem IsingStrip_small (a : Nat → Addr) (h l : Int) (w : World) (hE : Errs w a) (hf : fitsP h l) (hl : l < 3) :
    Calls Tryd.prog 6 #[.int .i64 h, .int .i64 l, .bool true] w fun e w' => e = .returned (.bool true) ∧ Below w.heap.size w w' := by
  have HPE := Hid.mk' (bond_any a w hE)
  have HSE := Hid.mk' (fun W => stripError_yes h l W hf)
  have HST : Hid (∀ W, Below w.heap.size w W → Calls Tryd.prog 21 #[.int .i64 h, .int .i64 l, .bool true] W fun e w' => e = .returned (.tuple #[.slice none 0 0, errV a 3]) ∧ Below W.heap.size W w') := fun W hb => Strip_small a h l W (hE.below hb) hf hl
  have HCO : Hid (∀ W, Below w.heap.size w W → Calls Tryd.prog 11 #[errV a 3, .int .i64 3] W fun e w' => e = .returned (.bool true) ∧ Below W.heap.size W w') := fun W hb => coded_errV a 3 (by decide) W (hE.below hb)
  have HR2 : Hid (errV a 3 = .iface 106 (.pointer (some (a 2)))) := rfl
  have hld : decide (l < 3) = true := decide_eq_true hl
  rw [HR2.out] at HST HCO
  clear hE hf
  go_enter Tryd.func6, Tryd.ntmps6
  go_wp2_with fail
  refine HPE.out.mono ?_
  rintro e w2 ⟨rfl, hb2⟩
  have HB2 := Hid.mk' hb2
  clear hb2 HPE
  go_wp2_with fail
  refine (HSE.out _).mono ?_
  rintro e w3 ⟨rfl, hw3⟩
  rw [hw3]
  clear hw3 HSE
  go_wp2_with fail
  refine (HST.out _ HB2.out).mono ?_
  rintro e w5 ⟨rfl, hb5⟩
  have HB5 := Hid.mk' (below_chain HB2.out hb5)
  clear hb5 HST
  go_wp2_with fail
  refine (HCO.out _ HB5.out).mono ?_
  rintro e w7 ⟨rfl, hb7⟩
  have HB7 := Hid.mk' (below_chain HB5.out hb7)
  clear hb7
  go_wp2_with fail
  go_ret
  exact ⟨rfl, HB7.out⟩

/-- The bonds of a small strip: few, and between its spins. -/
theorem bondS : ∀ x, x ∈ allS → (strB x.1 x.2.1 x.2.2 x.2.1).length ≤ 30 ∧ ∀ e, e ∈ strB x.1 x.2.1 x.2.2 x.2.1 → e.1 < x.1 * x.2.1 ∧ e.2 < x.1 * x.2.1 := by decide +kernel
theorem in_allS {h l : Nat} {ring : Bool} (hh1 : 1 ≤ h) (hh : h ≤ 4) (hl1 : 1 ≤ l) (hr : ring = true → 3 ≤ l) (h10 : h * l ≤ 10) : (h, l, ring) ∈ allS := by
  rcases (show h = 1 ∨ h = 2 ∨ h = 3 ∨ h = 4 by omega) with rfl | rfl | rfl | rfl
  · cases ring with
    | false => rcases (show l = 1 ∨ l = 2 ∨ l = 3 ∨ l = 4 ∨ l = 5 ∨ l = 6 ∨ l = 7 ∨ l = 8 ∨ l = 9 ∨ l = 10 by omega) with rfl | rfl | rfl | rfl | rfl | rfl | rfl | rfl | rfl | rfl <;> decide
    | true =>
      have := hr rfl
      rcases (show l = 3 ∨ l = 4 ∨ l = 5 ∨ l = 6 ∨ l = 7 ∨ l = 8 ∨ l = 9 ∨ l = 10 by omega) with rfl | rfl | rfl | rfl | rfl | rfl | rfl | rfl <;> decide
  · cases ring with
    | false => rcases (show l = 1 ∨ l = 2 ∨ l = 3 ∨ l = 4 ∨ l = 5 by omega) with rfl | rfl | rfl | rfl | rfl <;> decide
    | true =>
      have := hr rfl
      rcases (show l = 3 ∨ l = 4 ∨ l = 5 by omega) with rfl | rfl | rfl <;> decide
  · cases ring with
    | false => rcases (show l = 1 ∨ l = 2 ∨ l = 3 by omega) with rfl | rfl | rfl <;> decide
    | true =>
      have := hr rfl
      obtain rfl : l = 3 := by omega
      decide
  · cases ring with
    | false => rcases (show l = 1 ∨ l = 2 by omega) with rfl | rfl <;> decide
    | true =>
      have := hr rfl
      omega
theorem getD_mem {E : List (Nat × Nat)} {i : Nat} (h : i < E.length) : E.getD i (0, 0) ∈ E := by
  rw [List.getD_eq_getElem?_getD, List.getElem?_eq_getElem h]
  exact List.getElem_mem h

set_option maxRecDepth 100000 in
set_option maxHeartbeats 8000000 in
theorem IsingStrip_ok (a : Nat → Addr) (h l : Nat) (ring : Bool) (w : World) (hE : Errs w a) (hh1 : 1 ≤ h) (hh : h ≤ 4) (hl1 : 1 ≤ l) (hl : l ≤ 12) (hr : ring = true → 3 ≤ l) :
    Calls Tryd.prog 6 #[.int .i64 h, .int .i64 l, .bool ring] w fun e w' => e = .returned (.bool true) ∧ Below w.heap.size w w' := by
  have HPE := Hid.mk' (bond_any a w hE)
  have HSE := Hid.mk' (fun W => stripError_yes h l W ⟨by omega, by omega, by omega, by omega⟩)
  have HST := Hid.mk' (fun W => Strip_ok h l ring W hh1 hh hl1 hl hr)
  have hcb := cbN_le (ring := ring) hh hl
  have HSU : Hid (suF (spN h l ring) (cbN h l ring + 1) = 2 ^ (h * l)) := sp_sum hh1 hh hl1
  have HNO : Hid (spN h l ring 0 = 2) := sp_none hh1 hh
  have HBG : Hid (∀ W, Calls Tryd.prog 23 #[.int .i64 h, .int .i64 l, .bool ring] W fun e w' => ∃ v, e = .returned v ∧ w'.ownsRow W.heap.size 50 2 v (strB h l ring l).length (pairCells (strB h l ring l)) ∧ Below W.heap.size W w') := fun W => StripBonds_any h l ring W hh1 hh hl1 hl
  have HLN : Hid ((strB h l ring l).length = cbN h l ring) := lenS h (by omega) l (by omega) ring hh1 hl1
  have HUN : Hid (h * l ≤ 10 → ∀ (W : World) (v : Value) (base : Nat), W.ownsRow base 50 2 v (strB h l ring l).length (pairCells (strB h l ring l)) → Calls Tryd.prog 15 #[.int .i64 ((h * l : Nat) : Int), v] W fun e w' => ∃ g, e = .returned (.slice (some ⟨g, 0, none⟩) (cbN h l ring + 1) (cbN h l ring + 1)) ∧ Fills W w' g (cbN h l ring + 1) (fun k => ((spN h l ring k : Nat) : Int))) := fun h10 W v base hv => by
    have hm := bondS _ (in_allS hh1 hh hl1 hr h10)
    have h1 := UnlikeOf_any (h * l) (strB h l ring l).length v (fun i => ((strB h l ring l).getD i (0, 0)).1) (fun i => ((strB h l ring l).getD i (0, 0)).2) W (edAt_row hv) (by omega) hm.1 (fun i hi => hm.2 _ (getD_mem hi))
    refine h1.mono ?_
    rintro e w' ⟨g, he, hF⟩
    have h2 := HLN.out
    have h3 := fun k hk => sp_states hh1 hh hl1 hl hr h10 k hk
    generalize hS : (strB h l ring l).length = S at *
    subst h2
    exact ⟨g, he, hF.congr fun k hk => by rw [h3 k hk]⟩
  have HT2 : Hid (ring = false → l ≤ 4 → h * l ≤ 10 → ∀ W, Calls Tryd.prog 21 #[.int .i64 l, .int .i64 h, .bool false] W fun e w' => ∃ g, e = .returned (.tuple #[.slice (some ⟨g, 0, none⟩) (cbN h l ring + 1) (cbN h l ring + 1), .nilIface]) ∧ Fills W w' g (cbN h l ring + 1) (fun k => ((spN h l ring k : Nat) : Int))) := fun er h4 h10 W => by
    subst er
    obtain ⟨t1, t2⟩ := sp_turned hh1 hh hl1 h4 h10
    refine (Strip_ok l h false W hl1 h4 hh1 (by omega) (fun e => by cases e)).mono ?_
    rintro e w' ⟨g, he, hF⟩
    rw [← t1] at he hF
    exact ⟨g, he, hF.congr fun k hk => by rw [t2 k hk]⟩
  obtain ⟨X, hX⟩ : ∃ X : Nat, X = h * l := ⟨_, rfl⟩
  have hX48 : X ≤ 48 := by rw [hX]; exact Nat.mul_le_mul hh hl
  have hXI : (h : Int) * (l : Int) = (X : Int) := by rw [hX]; simp
  rw [← hX] at HSU HUN HT2
  obtain ⟨S2, hS2⟩ : ∃ S2 : Nat, S2 = 2 ^ X := ⟨_, rfl⟩
  have hS2b : S2 ≤ 2 ^ 48 := by rw [hS2]; exact Nat.pow_le_pow_right (by decide) hX48
  have hsh : IntKind.i64.wrap (2 ^ X : Int) = (S2 : Int) := by rw [shl_wrap X (by omega), hS2]; simp
  have hXw : IntKind.i64.wrap (X : Int) = (X : Int) := i64_low X (by omega)
  rw [← hS2] at HSU
  have hhI : (h : Int) ≤ 4 := by omega
  have hh0 : (1 : Int) ≤ (h : Int) := by omega
  have hlI : (l : Int) ≤ 12 := by omega
  have hl0 : (1 : Int) ≤ (l : Int) := by omega
  have HRG := Hid.mk' hr
  generalize strB h l ring l = E at *
  generalize spN h l ring = sp at *
  generalize cbN h l ring = n at *
  have HSM : Hid (∀ (W : World) (g : Nat), RowAt W g 0 (n + 1) (fun k => ((sp k : Nat) : Int)) → Calls Tryd.prog 22 #[.slice (some ⟨g, 0, none⟩) (n + 1) (n + 1)] W fun e w' => e = .returned (.int .i64 (S2 : Int)) ∧ w' = W) := fun W g hg => by
    have h9 := RSum_any g (n + 1) (n + 1) sp W hg (by omega) (by rw [HSU.out]; exact Nat.le_trans hS2b (by decide))
    rwa [HSU.out] at h9
  have hS2I : (S2 : Int) ≤ 281474976710656 := by omega
  have hss : ((S2 : Int) != (S2 : Int)) = false := by simp
  clear hE hX hS2 hr
  go_enter Tryd.func6, Tryd.ntmps6
  go_wp2_with fail
  refine HPE.out.mono ?_
  rintro e w2 ⟨rfl, hb2⟩
  have HB2 := Hid.mk' hb2
  clear hb2 HPE
  go_wp2_with fail
  refine (HSE.out _).mono ?_
  rintro e w3 ⟨rfl, hw3⟩
  rw [hw3]
  clear hw3 HSE
  cases ring with
  | true =>
    have hl3 : ¬ ((l : Int) < 3) := by have := HRG.out rfl; omega
    have hl3n : ¬ (l < 3) := by omega
    go_wp2_with fail
    refine (HST.out _).mono ?_
    rintro e w5 ⟨g5, rfl, hF5⟩
    have HB5 := Hid.mk' (below_chain HB2.out hF5.below)
    have HF5 := Hid.mk' hF5
    have HN5 := Hid.mk' hF5.nums
    have HSC : Hid (∀ W, Below w5.heap.size w5 W → Calls Tryd.prog 22 #[.slice (some ⟨g5, 0, none⟩) (n + 1) (n + 1)] W fun e w' => e = .returned (.int .i64 (S2 : Int)) ∧ w' = W) := fun W hb => HSM.out W g5 (HF5.out.row.later hb)
    clear hF5 HST HSM
    go_wp2_with fail
    have hcur0 : Below w5.heap.size w5 w5 := Below.refl _ _
    have hcur : Below w5.heap.size w5 w5.drew := hcur0.drew
    go_region_held3 (fun W => Below w5.heap.size w5 W)
      (first | exact hcur0 | exact hcur)
      (first | (go_at_call 22; refine (HSC.out _ hcur).mono ?_; rintro e w6 ⟨rfl, hw6⟩; rw [hw6]; clear hw6))
    clear HSC
    have HN6 := Hid.mk' (HN5.out.later hcur)
    have HF6 := Hid.mk' (HF5.out.later hcur)
    have HB6 := Hid.mk' (below_chain HB5.out hcur)
    generalize w5.drew = W6 at HN6 HF6 HB6 ⊢
    clear hcur hcur0 HN5 HF5
    by_cases h10 : X ≤ 10
    · have hxI : ¬ ((10 : Int) < (X : Int)) := by omega
      have hxJ : ¬ (10 < X) := by omega
      have HUX := Hid.mk' (HUN.out h10)
      go_wp2_with fail
      refine (HBG.out _).mono ?_
      rintro e w7 ⟨v7, rfl, h7, hb7⟩
      have HB7 := Hid.mk' (below_chain HB6.out hb7)
      have HN7 := Hid.mk' (HN6.out.later hb7)
      have HUY := Hid.mk' (HUX.out w7 v7 _ h7)
      obtain ⟨a7, k7, rfl, _⟩ := row_shape2 h7
      clear h7 hb7 HUX HBG HN6
      go_wp2_with fail
      refine HUY.out.mono ?_
      rintro e w8 ⟨g8, rfl, hF8⟩
      have HB8 := Hid.mk' (below_chain HB7.out hF8.below)
      have HN8 := Hid.mk' (HN7.out.later hF8.below)
      have HSI := Hid.mk' (SameInts_any _ _ (n + 1) (fun k => ((sp k : Nat) : Int)) w8 HN8.out hF8.nums (by omega))
      clear hF8 HUY HN7
      go_wp2_with fail
      refine HSI.out.mono ?_
      rintro e w9 ⟨rfl, hb9⟩
      have HB9 := Hid.mk' (below_chain HB8.out hb9)
      have HN9 := Hid.mk' (HN8.out.later hb9)
      clear hb9 HSI HN8
      go_wp2_with fail
      go_ret
      exact ⟨rfl, HB9.out⟩
    · have hxI : (10 : Int) < (X : Int) := by omega
      have c0 : W6.cell? ⟨g5, 0, none⟩ = some (.int .i64 2) := by
        have h9 := HF6.out.row 0 (Nat.succ_pos _)
        rw [Nat.zero_add] at h9
        rw [h9]
        simp only [HNO.out]
        rfl
      go_wp2_with fail
      go_ret
      exact ⟨rfl, HB6.out⟩
  | false =>
    clear HRG
    go_wp2_with fail
    refine (HST.out _).mono ?_
    rintro e w5 ⟨g5, rfl, hF5⟩
    have HB5 := Hid.mk' (below_chain HB2.out hF5.below)
    have HF5 := Hid.mk' hF5
    have HN5 := Hid.mk' hF5.nums
    have HSC : Hid (∀ W, Below w5.heap.size w5 W → Calls Tryd.prog 22 #[.slice (some ⟨g5, 0, none⟩) (n + 1) (n + 1)] W fun e w' => e = .returned (.int .i64 (S2 : Int)) ∧ w' = W) := fun W hb => HSM.out W g5 (HF5.out.row.later hb)
    clear hF5 HST HSM
    go_wp2_with fail
    have hcur0 : Below w5.heap.size w5 w5 := Below.refl _ _
    have hcur : Below w5.heap.size w5 w5.drew := hcur0.drew
    go_region_held3 (fun W => Below w5.heap.size w5 W)
      (first | exact hcur0 | exact hcur)
      (first | (go_at_call 22; refine (HSC.out _ hcur).mono ?_; rintro e w6 ⟨rfl, hw6⟩; rw [hw6]; clear hw6))
    clear HSC
    have HN6 := Hid.mk' (HN5.out.later hcur)
    have HF6 := Hid.mk' (HF5.out.later hcur)
    have HB6 := Hid.mk' (below_chain HB5.out hcur)
    generalize w5.drew = W6 at HN6 HF6 HB6 ⊢
    clear hcur hcur0 HN5 HF5
    by_cases h10 : X ≤ 10
    · have hxI : ¬ ((10 : Int) < (X : Int)) := by omega
      have hxJ : ¬ (10 < X) := by omega
      have HUX := Hid.mk' (HUN.out h10)
      go_wp2_with fail
      refine (HBG.out _).mono ?_
      rintro e w7 ⟨v7, rfl, h7, hb7⟩
      have HB7 := Hid.mk' (below_chain HB6.out hb7)
      have HN7 := Hid.mk' (HN6.out.later hb7)
      have HUY := Hid.mk' (HUX.out w7 v7 _ h7)
      obtain ⟨a7, k7, rfl, _⟩ := row_shape2 h7
      clear h7 hb7 HUX HBG HN6
      go_wp2_with fail
      refine HUY.out.mono ?_
      rintro e w8 ⟨g8, rfl, hF8⟩
      have HB8 := Hid.mk' (below_chain HB7.out hF8.below)
      have HN8 := Hid.mk' (HN7.out.later hF8.below)
      have HSI := Hid.mk' (SameInts_any _ _ (n + 1) (fun k => ((sp k : Nat) : Int)) w8 HN8.out hF8.nums (by omega))
      clear hF8 HUY HN7
      go_wp2_with fail
      refine HSI.out.mono ?_
      rintro e w9 ⟨rfl, hb9⟩
      have HB9 := Hid.mk' (below_chain HB8.out hb9)
      have HN9 := Hid.mk' (HN8.out.later hb9)
      clear hb9 HSI HN8
      by_cases h4 : l ≤ 4
      · have h4I : ¬ ((4 : Int) < (l : Int)) := by omega
        have h4J : ¬ (4 < l) := by omega
        have HTW := Hid.mk' (HT2.out (by first | rfl | trivial) h4 h10 w9)
        go_wp2_with fail
        refine HTW.out.mono ?_
        rintro e w10 ⟨g10, rfl, hF10⟩
        have HB10 := Hid.mk' (below_chain HB9.out hF10.below)
        have HSJ := Hid.mk' (SameInts_any _ _ (n + 1) (fun k => ((sp k : Nat) : Int)) w10 (HN9.out.later hF10.below) hF10.nums (by omega))
        clear hF10 HTW
        go_wp2_with fail
        refine HSJ.out.mono ?_
        rintro e w11 ⟨rfl, hb11⟩
        have HB11 := Hid.mk' (below_chain HB10.out hb11)
        clear hb11 HSJ
        go_wp2_with fail
        go_ret
        exact ⟨rfl, HB11.out⟩
      · have h4I : (4 : Int) < (l : Int) := by omega
        go_wp2_with fail
        go_ret
        exact ⟨rfl, HB9.out⟩
    · have hxI : (10 : Int) < (X : Int) := by omega
      have c0 : W6.cell? ⟨g5, 0, none⟩ = some (.int .i64 2) := by
        have h9 := HF6.out.row 0 (Nat.succ_pos _)
        rw [Nat.zero_add] at h9
        rw [h9]
        simp only [HNO.out]
        rfl
      go_wp2_with fail
      go_ret
      exact ⟨rfl, HB6.out⟩

theorem IsingStrip_all (a : Nat → Addr) (h l : Int) (ring : Bool) (w : World) (hE : Errs w a) :
    Calls Tryd.prog 6 #[.int .i64 h, .int .i64 l, .bool ring] w fun e w' => e = .returned (.bool true) ∧ Below w.heap.size w w' := by
  by_cases hf : fitsP h l
  · by_cases hr : ring = true ∧ l < 3
    · obtain ⟨rfl, hr⟩ := hr
      exact IsingStrip_small a h l w hE hf hr
    · obtain ⟨h1, h2, h3, h4⟩ := hf
      obtain ⟨H, rfl⟩ : ∃ H : Nat, h = H := ⟨h.toNat, by omega⟩
      obtain ⟨L, rfl⟩ : ∃ L : Nat, l = L := ⟨l.toNat, by omega⟩
      exact IsingStrip_ok a H L ring w hE (by omega) (by omega) (by omega) (by omega) (fun e => by
        rcases Nat.lt_or_ge L 3 with h5 | h5
        · exact absurd ⟨e, by omega⟩ hr
        · exact h5)
  · exact IsingStrip_no a h l ring w hE hf
end Go.Proofs.YtoghnbcjkgookaaDoor
