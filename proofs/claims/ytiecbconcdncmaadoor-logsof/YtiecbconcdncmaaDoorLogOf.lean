/- The document's LogOf. -/
import Derived.Test.YtiecbconcdncmaaDoorWToldW
import Derived.Test.YtiecbconcdncmaaDoorIsLogW
namespace Go.Proofs.YtiecbconcdncmaaDoor
open Go.RowKit

theorem gList_one : ∀ L : List Int, gList 1 L = 1
  | [] => rfl
  | x :: r => by
    show gList (Nat.gcd 1 x.natAbs) r = 1
    rw [Nat.gcd_one_left]; exact gList_one r
theorem low_of_one : lowN 1 1 = 1 ∧ lowD 1 1 = 1 := low_one 1
theorem low_of_back : lowN 1 (-1) = -1 ∧ lowD 1 (-1) = 1 := low_one (-1)

/-- What LogOf tells, by lists. -/
theorem over_of {a b k1 k2 : Nat} {L : List Ent} (hr : Rising (absL L)) (hv : ∀ x, atL (absL L) x = multI x a - multI x b) (h1 : 2 ^ k1 * 1 ≤ a) (h2 : 2 ^ k2 * 1 ≤ b) (hl : L.length ≤ k1 + k2) : IsOf a b (overL 1 (absL L)) :=
  ⟨rising_over hr 1, fun e he => over_nz he, fun x => by rw [atL_over hr]; simpa using hv x, k1, k2, h1, h2, by have := length_over (absL L) 1; rw [absL_length] at this; omega⟩
theorem isOf_uniq {a b : Nat} {t t' : List (Int × Int)} (h : IsOf a b t) (h' : IsOf a b t') : t = t' := rising_ext h.rise h'.rise h.nz h'.nz (fun x => by rw [h.val, h'.val])

set_option maxRecDepth 100000 in
set_option maxHeartbeats 2000000 in
theorem LogOf_any (a b : Nat) (w : World) (ha : 1 ≤ a) (ha6 : a ≤ 1000000) (hb : 1 ≤ b) (hb6 : b ≤ 1000000) : Calls Tryd.prog 23 #[.agg #[.int .i64 a, .int .i64 b]] w fun e w' => ∃ v t, e = .returned (.tuple #[.agg #[.int .i64 1, v], .int .i64 0]) ∧ ListAt w' v t ∧ IsOf a b t ∧ Below w.heap.size w w' := by
  obtain ⟨W0, hW0⟩ : ∃ W0, W0 = (w.alloc (.cells #[.int .i64 a, .int .i64 b] 48)).alloc (.cells #[.int .i64 0, .slice none 0 0] 39) := ⟨_, rfl⟩
  have hb0 : Below w.heap.size w W0 := by rw [hW0]; exact ((Below.refl _ _).alloc (Nat.le_refl _) _).alloc (by simp) _
  have hz0 : W0.heap.size = w.heap.size + 1 + 1 := by rw [hW0]; simp
  have hcell : ∀ W, Below W0.heap.size W0 W → W.cell? ⟨w.heap.size, 0, none⟩ = some (.int .i64 a) ∧ W.cell? ⟨w.heap.size, 1, none⟩ = some (.int .i64 b) ∧ W.cell? ⟨w.heap.size + 1, 0, none⟩ = some (.int .i64 0) ∧ W.cell? ⟨w.heap.size + 1, 1, none⟩ = some (.slice none 0 0) ∧ W.frozen? ⟨w.heap.size + 1, 0, none⟩ = false ∧ W.frozen? ⟨w.heap.size + 1, 1, none⟩ = false := fun W hbl => by
    refine ⟨(cell_past ?_ hbl).2, (cell_past ?_ hbl).2, (cell_past ?_ hbl).2, (cell_past ?_ hbl).2, (frozen_past (v := .int .i64 0) ?_ ?_ hbl).2, (frozen_past (v := .slice none 0 0) ?_ ?_ hbl).2⟩ <;> rw [hW0] <;> simp
  have hwd : WideAt (w.heap.size + 1 + 1) 1 (W0.alloc (.cells #[.slice none 0 0, .slice none 0 0] 89)) (w.heap.size + 1 + 1) (.slice none 0 0) (.slice none 0 0) [] :=
    ⟨Nat.le_refl _, by rw [← hz0]; simp, by rw [← hz0]; simp, by rw [← hz0]; simp, by rw [← hz0]; simp, World.ownsRow_nil _ _ _ _, World.ownsRow_nil _ _ _ _, (fun e he => by cases he), fun _ => ⟨rfl, rfl⟩⟩
  have HB0 := Hid.mk' hb0
  have HC := Hid.mk' hcell
  have HWD := Hid.mk' hwd
  obtain ⟨c0, c1, _⟩ := hcell W0 (Below.refl _ _)
  have HW0 := Hid.mk' hW0
  have HZ0 := Hid.mk' hz0
  clear hb0 hcell hwd hW0
  go_enter Tryd.func23, Tryd.ntmps23
  go_upto_region 1 with fail
  rw [← HW0.out]
  go_upto_region 4 with fail
  obtain ⟨W1, hW1⟩ : ∃ W1, W1 = W0.alloc (.cells #[.slice none 0 0, .slice none 0 0] 89) := ⟨_, rfl⟩
  rw [← hW1] at HWD ⊢
  have HB1 : Hid (Below W0.heap.size W0 W1) := by rw [hW1]; exact new_below _ _
  clear hW1 c0 c1 hz0
  have hcur0 : Below W1.heap.size W1 W1 := Below.refl _ _
  have hcur : Below W1.heap.size W1 W1.drew := (Below.refl _ _).drew
  have HCA : Hid (∀ W, Below W0.heap.size W0 W → W.cell? ⟨w.heap.size, 0, none⟩ = some (.int .i64 a)) := fun W h => (HC.out W h).1
  have HCB : Hid (∀ W, Below W0.heap.size W0 W → W.cell? ⟨w.heap.size, 1, none⟩ = some (.int .i64 b)) := fun W h => (HC.out W h).2.1
  have HR1 : Hid (∀ (W : World) (r : Value), RatioAt W r ((1 : Int).tdiv ((Nat.gcd (1 : Int).natAbs 1 : Nat) : Int)) (1 / Nat.gcd (1 : Int).natAbs 1) → RatioAt W r (lowN 1 1) (lowD 1 1)) := fun W r h => by rw [low_of_one.1, low_of_one.2]; exact h
  have HR2 : Hid (∀ (W : World) (r : Value), RatioAt W r ((-1 : Int).tdiv ((Nat.gcd (-1 : Int).natAbs 1 : Nat) : Int)) (1 / Nat.gcd (-1 : Int).natAbs 1) → RatioAt W r (lowN 1 (-1)) (lowD 1 (-1))) := fun W r h => by rw [low_of_back.1, low_of_back.2]; exact h
  have HRO : Hid (∀ W, Calls Tryd.prog 46 #[.int .i64 1, .int .i64 1] W fun e w' => ∃ r, e = .returned r ∧ RatioAt w' r ((1 : Int).tdiv ((Nat.gcd (1 : Int).natAbs 1 : Nat) : Int)) (1 / Nat.gcd (1 : Int).natAbs 1) ∧ Below W.heap.size W w') := fun W => RatioOf_any 1 1 W (by decide) (by decide) (by decide) (by decide)
  have HRB : Hid (∀ W, Calls Tryd.prog 46 #[.int .i64 (-1), .int .i64 1] W fun e w' => ∃ r, e = .returned r ∧ RatioAt w' r ((-1 : Int).tdiv ((Nat.gcd (-1 : Int).natAbs 1 : Nat) : Int)) (1 / Nat.gcd (-1 : Int).natAbs 1) ∧ Below W.heap.size W w') := fun W => RatioOf_any (-1) 1 W (by decide) (by decide) (by decide) (by decide)
  go_cut [] from 26 (fun wx => ∃ (vp vc : Value) (L : List Ent) (k : Nat) (W2 : World), Hid (InNum (w.heap.size + 1 + 1) 1 (w.heap.size + 1 + 1) W2 wx 1 [] a 1 k vp vc L) ∧ Hid (Below W0.heap.size W0 wx))
  case first =>
    go_region_held3 (fun W => W.cell? ⟨w.heap.size, 0, none⟩ = some (.int .i64 a))
      (first | exact HCA.out _ (below_chain HB1.out hcur0) | exact HCA.out _ (below_chain HB1.out hcur) | exact HCA.out _ (below_chain HB1.out hbw2) | exact HCA.out _ hb03)
      (first
        | (go_at_call 45; refine (Number_any (w.heap.size + 1 + 1) 1 (w.heap.size + 1 + 1) a 1 _ _ _ [] 3 w2 (HWD.out.later hbw2) HRR.out (by decide) List.Pairwise.nil (by simp) ha ha6 (fun x => by simp [atL, absL]) (by decide) (by decide)).mono ?_; rintro e w3 ⟨rfl, vp3, vc3, L3, k3, hin3⟩; have hb03 := (below_chain HB1.out hbw2).trans (hin3.below.mono (Nat.le_of_eq HZ0.out)); have H3 := Hid.mk' hin3; clear hin3)
        | (go_at_call 46; refine (HRO.out _).mono ?_; rintro e w2 ⟨r2, rfl, hr2, hb2⟩; have hbw2 := below_chain hcur hb2; have HRR := Hid.mk' (HR1.out _ _ hr2); clear hr2 hb2))
    all_goals
      go_wp2_with fail
      go_meet
      exact ⟨_, _, _, _, _, H3, hb03⟩
  case rest =>
  obtain ⟨vp, vc, L, k, W2, HI, HBX⟩ := hcut
  obtain ⟨Wm, hWm⟩ : ∃ Wm, Wm = wc := ⟨_, rfl⟩
  rw [← hWm] at HI HBX ⊢
  clear hWm hcur hcur0
  have hcur0 : Below Wm.heap.size Wm Wm := Below.refl _ _
  have hcur : Below Wm.heap.size Wm Wm.drew := (Below.refl _ _).drew
  have hk19 := HI.out.cnt_le (by decide) ha6
  have hlen1 := HI.out.len
  simp at hlen1
  have HV1 : Hid (∀ x, atL (absL L) x = multI x a) := fun x => by
    have := HI.out.val x
    rw [multI_one] at this
    simpa [absL, atL] using this
  have HBD : Hid (∀ x, (atL (absL L) x).natAbs + 20 * (-1 : Int).natAbs < 1000000 ^ 3) := fun x => by
    rw [HV1.out]
    have h1 := multI_nonneg x a
    have h2 := multI_le x ha ha6
    have h3 : (1000000 : Nat) ^ 3 = 1000000000000000000 := by decide
    rw [h3]
    simp
    omega
  go_upto_region 5 with fail
  go_cut [] from 31 (fun wx => ∃ (vp vc : Value) (L2 : List Ent) (k2 : Nat) (W2 : World), Hid (InNum (w.heap.size + 1 + 1) 1 (w.heap.size + 1 + 1) W2 wx (-1) L b 1 k2 vp vc L2) ∧ Hid (Below W0.heap.size W0 wx))
  case first =>
    go_region_held3 (fun W => W.cell? ⟨w.heap.size, 1, none⟩ = some (.int .i64 b))
      (first | exact HCB.out _ (below_chain HBX.out hcur0) | exact HCB.out _ (below_chain HBX.out hcur) | exact HCB.out _ (below_chain HBX.out hbw2) | exact HCB.out _ hb03)
      (first
        | (go_at_call 45; refine (Number_any (w.heap.size + 1 + 1) 1 (w.heap.size + 1 + 1) b (-1) _ _ _ L 3 w2 (HI.out.wide.later hbw2) HRR.out (by decide) HI.out.rise (by omega) hb hb6 HBD.out (by decide) (by decide)).mono ?_; rintro e w3 ⟨rfl, vp3, vc3, L3, k3, hin3⟩; have hb03 := (below_chain HBX.out hbw2).trans (hin3.below.mono (Nat.le_of_eq HZ0.out)); have H3 := Hid.mk' hin3; clear hin3)
        | (go_at_call 46; refine (HRB.out _).mono ?_; rintro e w2 ⟨r2, rfl, hr2, hb2⟩; have hbw2 := below_chain hcur hb2; have HRR := Hid.mk' (HR2.out _ _ hr2); clear hr2 hb2))
    all_goals
      go_wp2_with fail
      go_meet
      exact ⟨_, _, _, _, _, H3, hb03⟩
  case rest =>
  obtain ⟨vp2, vc2, L2, k2, W3, HI2, HBX2⟩ := hcut
  have hk29 := HI2.out.cnt_le (by decide) hb6
  have hlen2 := HI2.out.len
  have HV2 : Hid (∀ x, atL (absL L2) x = multI x a - multI x b) := fun x => by
    have := HI2.out.val x
    rw [multI_one, HV1.out] at this
    omega
  have HZ : Hid (∀ e ∈ L2, e.z.natAbs ≤ 38) := fun e he => by
    have h0 := atL_mem HI2.out.rise (absL_mem he)
    simp only at h0
    have h1 := HV2.out e.p
    have h2 := multI_nonneg e.p a
    have h3 := multI_le e.p ha ha6
    have h4 := multI_nonneg e.p b
    have h5 := multI_le e.p hb hb6
    omega
  have HOF := Hid.mk' (over_of HI2.out.rise HV2.out HI.out.cnt HI2.out.cnt (by omega))
  obtain ⟨adp, capp, hvp⟩ : ∃ ad c, vp2 = .slice ad L2.length c := by
    rcases HI2.out.wide.P.2 with ⟨rfl, h0⟩ | ⟨g, cap, cur, rfl, _⟩
    · exact ⟨none, 0, by rw [h0]⟩
    · exact ⟨_, _, rfl⟩
  obtain ⟨adc, capc, hvc⟩ : ∃ ad c, vc2 = .slice ad L2.length c := by
    rcases HI2.out.wide.C.2 with ⟨rfl, h0⟩ | ⟨g, cap, cur, rfl, _⟩
    · exact ⟨none, 0, by rw [h0]⟩
    · exact ⟨_, _, rfl⟩
  have hwd2 := HI2.out.wide
  rw [hvp, hvc] at hwd2
  have HZB : Hid (∀ e ∈ L2, e.z.natAbs < 1000000 ^ 3) := fun e he => by
    have h1 := HZ.out e he
    have h3 : (1000000 : Nat) ^ 3 = 1000000000000000000 := by decide
    omega
  have htold := WTold_any (w.heap.size + 1 + 1) 1 (w.heap.size + 1 + 1) adp adc capp capc L2 3 1 true wc hwd2 (by decide) (by omega) HZB.out (by decide) (by decide) (by decide) (gList_one _) ⟨fun _ => ⟨by decide, fun e he => by have := HZ.out e he; simp; omega⟩, fun _ => rfl⟩
  clear hwd2 hvp hvc HI HI2 HV1 HV2 HBD HZ HZB HR1 HR2 HRO HRB HBX hcur hcur0 HWD HB1 HCA HCB
  go_wp2_with fail
  refine htold.mono ?_
  clear htold
  rintro e w7 ⟨h7, hb7⟩
  rcases h7 with ⟨_, v, rfl, hrow⟩ | ⟨h7, _⟩
  case inr => cases h7
  obtain ⟨_, _, z0, z1, f0, f1⟩ := HC.out w7 (below_chain HBX2.out hb7)
  have hsz : w.heap.size + 1 < wc.heap.size := by have h1 := HBX2.out.size; have h2 := HZ0.out; omega
  obtain ⟨ad, n', c', rfl⟩ : ∃ ad n' c', v = .slice ad n' c' := by
    rcases hrow.2 with ⟨rfl, _⟩ | ⟨gg, cap', cur', rfl, _⟩
    · exact ⟨_, _, _, rfl⟩
    · exact ⟨_, _, _, rfl⟩
  have HRW := Hid.mk' hrow
  have HB8 := Hid.mk' (below_chain HB0.out (below_chain HBX2.out hb7))
  clear hrow hb7
  go_wp2_with fail
  refine bodyPost_ret (v := .tuple #[.agg #[.int .i64 1, .slice ad n' c'], .int .i64 0]) (by simp [results, Tryd.results23, go_sem, z0, z1]) rfl ⟨.slice ad n' c', _, rfl, ?_, HOF.out, ?_⟩
  · have h1 := ownsRow_setCell_below HRW.out (a := ⟨w.heap.size + 1, 0, none⟩) (by show w.heap.size + 1 < _; omega) (.int .i64 1)
    have h2 := ownsRow_setCell_below h1 (a := ⟨w.heap.size + 1, 1, none⟩) (by show w.heap.size + 1 < _; omega) (.slice ad n' c')
    rw [flat_cells] at h2
    exact ownAt_of_row h2
  · exact (HB8.out.setCell (by simp) _).setCell (by simp) _

set_option maxRecDepth 100000 in
set_option maxHeartbeats 1000000 in
theorem LogOf_shape (a b : Int) (w : World) (hbad : a < 1 ∨ 1000000 < a ∨ b < 1 ∨ 1000000 < b) : Calls Tryd.prog 23 #[.agg #[.int .i64 a, .int .i64 b]] w fun e w' => e = .returned (.tuple #[.agg #[.int .i64 0, .slice none 0 0], .int .i64 3]) ∧ Below w.heap.size w w' := by
  have hb0 : Below w.heap.size w ((w.alloc (.cells #[.int .i64 a, .int .i64 b] 48)).alloc (.cells #[.int .i64 0, .slice none 0 0] 39)) := ((Below.refl _ _).alloc (Nat.le_refl _) _).alloc (by simp) _
  have HB0 := Hid.mk' hb0
  clear hb0
  by_cases h1 : a < 1
  · go_enter Tryd.func23, Tryd.ntmps23
    go_wp2_with fail
    refine bodyPost_ret (v := .tuple #[.agg #[.int .i64 0, .slice none 0 0], .int .i64 3]) (by simp [results, Tryd.results23, go_sem]) rfl ⟨rfl, HB0.out⟩
  · by_cases h2 : 1000000 < a
    · go_enter Tryd.func23, Tryd.ntmps23
      go_wp2_with fail
      refine bodyPost_ret (v := .tuple #[.agg #[.int .i64 0, .slice none 0 0], .int .i64 3]) (by simp [results, Tryd.results23, go_sem]) rfl ⟨rfl, HB0.out⟩
    · by_cases h3 : b < 1
      · go_enter Tryd.func23, Tryd.ntmps23
        go_wp2_with fail
        refine bodyPost_ret (v := .tuple #[.agg #[.int .i64 0, .slice none 0 0], .int .i64 3]) (by simp [results, Tryd.results23, go_sem]) rfl ⟨rfl, HB0.out⟩
      · have h4 : 1000000 < b := by omega
        go_enter Tryd.func23, Tryd.ntmps23
        go_wp2_with fail
        refine bodyPost_ret (v := .tuple #[.agg #[.int .i64 0, .slice none 0 0], .int .i64 3]) (by simp [results, Tryd.results23, go_sem]) rfl ⟨rfl, HB0.out⟩
end Go.Proofs.YtiecbconcdncmaaDoor
