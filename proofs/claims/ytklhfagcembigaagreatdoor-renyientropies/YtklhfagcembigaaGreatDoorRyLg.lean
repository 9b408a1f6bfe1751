/- The program's Collision, Least, Support. -/
import Derived.Test.YtklhfagcembigaaGreatDoorOfAny
import Derived.Test.YtklhfagcembigaaGreatDoorRyGs
import Derived.Test.YtklhfagcembigaaGreatDoorRyNum
namespace Go.Proofs.YtklhfagcembigaaGreatDoor
open Go.RowKit

theorem own_setR {w : World} {v : Value} {n : Nat} {p c : Nat → Int} {B : Nat} {ad : Option Addr} {l cap : Nat} {x y : Value} (h : OwnAt w v n p c) (hx : w.cell? ⟨B, 1, none⟩ = some (.slice ad l cap)) : OwnAt ((w.setCell ⟨B, 0, none⟩ x).setCell ⟨B, 1, none⟩ y) v n p c := by
  rcases h with h | ⟨g, cap', rfl, ht⟩
  · exact Or.inl h
  · refine Or.inr ⟨g, cap', rfl, fun i hi => ?_⟩
    have hne : B ≠ g := fun e => by
      have h1 := (ht 0 (by omega)).2
      rw [← e] at h1
      simp only [Nat.zero_mul, Nat.zero_add] at h1
      rw [hx] at h1
      cases h1
    constructor
    · rw [World.cell?_setCell_far _ _ _ _ hne, World.cell?_setCell_far _ _ _ _ hne]; exact (ht i hi).1
    · rw [World.cell?_setCell_far _ _ _ _ hne, World.cell?_setCell_far _ _ _ _ hne]; exact (ht i hi).2
theorem over_anyR (p q : Int) (w : World) :
    Calls Tryz.prog 28 #[.int .i64 p, .int .i64 q] w fun e w' => e = .returned (.agg #[.int .i64 p, .int .i64 q]) ∧ Below w.heap.size w w' := by
  have HB : Hid (Below w.heap.size w (w.alloc (.cells #[.int .i64 p, .int .i64 q] 38))) := (Below.refl _ _).alloc (Nat.le_refl _) _
  go_enter Tryz.func28, Tryz.ntmps28
  go_wp2_with fail
  have g0 : (w.alloc (.cells #[.int .i64 p, .int .i64 q] 38)).cell? ⟨w.heap.size, 0, none⟩ = some (.int .i64 p) := by simp
  have g1 : (w.alloc (.cells #[.int .i64 p, .int .i64 q] 38)).cell? ⟨w.heap.size, 1, none⟩ = some (.int .i64 q) := by simp
  exact bodyPost_ret (v := .agg #[.int .i64 p, .int .i64 q]) (by simp [results, Tryz.results28, go_sem, g0, g1]) rfl ⟨rfl, HB.out⟩
set_option maxRecDepth 100000 in
set_option maxHeartbeats 1000000 in
theorem squares_any (b o cap n : Nat) (z : Nat → Int) (w : World) (h : RowAt w b o n z) (hn : n ≤ 16) (hz : ∀ i, i < n → 0 ≤ z i ∧ z i ≤ 4096) :
    Calls Tryz.prog 26 #[.slice (some ⟨b, o, none⟩) n cap] w fun e w' => e = .returned (.int .i64 (sqNR z n : Nat)) ∧ w' = w := by
  have HR := Hid.mk' h
  have HZ := Hid.mk' hz
  have HSB : Hid (∀ k, k ≤ n → sqNR z k ≤ k * 16777216) := fun k => by
    induction k with
    | zero => intro _; exact Nat.le_refl _
    | succ k ih =>
      intro hk
      have h1 := ih (by omega)
      have h2 := hz k (by omega)
      have h3 : wN z k ≤ 4096 := by unfold wN; omega
      have h4 : wN z k * wN z k ≤ 4096 * 4096 := Nat.mul_le_mul h3 h3
      show sqNR z k + wN z k * wN z k ≤ _
      omega
  clear h hz
  go_enter Tryz.func26, Tryz.ntmps26
  go_wp2_with fail
  go_loop [3, 8] (fun s t => ∃ k : Nat, k ≤ n ∧ s = .int .i64 (sqNR z k : Nat) ∧ t = .int .i64 (k : Int)) (fun _ t => n - (intOf t).toNat)
  case atStart => exact ⟨0, Nat.zero_le _, rfl, rfl⟩
  case round =>
    obtain ⟨k, hk, rfl, rfl⟩ := hrel
    have hsb := HSB.out k hk
    rcases Nat.lt_or_ge k n with h1 | h1
    · have hkI : (k : Int) < (n : Int) := by omega
      have hk0 : (0 : Int) ≤ (k : Int) := by omega
      have hc := HR.out k h1
      have hx := HZ.out k h1
      have HN : Hid (((sqNR z (k + 1) : Nat) : Int) = (sqNR z k : Int) + z k * z k) := by
        show ((sqNR z k + wN z k * wN z k : Nat) : Int) = _
        have : (wN z k : Int) = z k := by unfold wN; omega
        rw [Int.natCast_add, Int.natCast_mul, this]
      have hxx : 0 ≤ z k * z k ∧ z k * z k ≤ 16777216 := ⟨Int.mul_nonneg hx.1 hx.1, Int.mul_le_mul (c := 4096) (d := 4096) hx.2 hx.2 hx.1 (by omega)⟩
      generalize sqNR z k = s at *
      generalize z k = x at *
      go_wp2_with fail
      exact ⟨⟨k + 1, h1, by rw [HN.out], by go_num⟩, by simp [intOf]; omega⟩
    · obtain rfl : k = n := by omega
      have hkI : ¬ (k : Int) < (k : Int) := by omega
      go_wp2_with fail
      go_ret
      exact ⟨rfl, rfl⟩
/-- What a function of these tells where all is right. -/
def Tells (p q : Nat) (e : Ending) (w' : World) : Prop := ∃ u t, e = .returned (.tuple #[.agg #[.int .i64 1, u], .nilIface]) ∧ ListAt w' u t ∧ IsOf p q t
set_option maxRecDepth 100000 in
set_option maxHeartbeats 2000000 in
theorem Least_badR (a : Nat → Addr) (v : Value) (n : Nat) (z : Nat → Int) (w : World) (hE : Errs w a) (h : NumsAt w v n z) (hn : n ≤ 1000000) (h0 : weightsErr z n ≠ 0) :
    Calls Tryz.prog 10 #[v] w fun e w' => e = .returned (.tuple #[.agg #[.int .i64 0, .slice none 0 0], errV a (weightsErr z n)]) ∧ Below w.heap.size w w' := by
  obtain ⟨W0, hW0⟩ : ∃ W0, W0 = w.alloc (.cells #[.int .i64 0, .slice none 0 0] 27) := ⟨_, rfl⟩
  have hb0 : Below w.heap.size w W0 := by rw [hW0]; exact (Below.refl _ _).alloc (Nat.le_refl _) _
  have c0 : W0.cell? ⟨w.heap.size, 0, none⟩ = some (.int .i64 0) := by rw [hW0]; simp
  have c1 : W0.cell? ⟨w.heap.size, 1, none⟩ = some (.slice none 0 0) := by rw [hW0]; simp
  have f0 : W0.frozen? ⟨w.heap.size, 0, none⟩ = false := by rw [hW0]; simp
  have f1 : W0.frozen? ⟨w.heap.size, 1, none⟩ = false := by rw [hW0]; simp
  have HV := Hid.mk' (Valid_weights a _ n z W0 (hE.below hb0) (h.later hb0) hn)
  obtain ⟨ad, cap, rfl⟩ := h.form
  rw [errV_pos a h0] at HV ⊢
  have HG := Hid.mk' (put_twoR (.int .i64 0) (.slice none 0 0) c0 c1)
  have HBE : Hid (Below w.heap.size w ((W0.setCell ⟨w.heap.size, 0, none⟩ (.int .i64 0)).setCell ⟨w.heap.size, 1, none⟩ (.slice none 0 0))) := (hb0.setCell (Nat.le_refl _) _).setCell (Nat.le_refl _) _
  obtain ⟨q0, _, _⟩ := HG.out
  have HW0 := Hid.mk' hW0
  clear hE h hb0 hW0
  go_enter Tryz.func10, Tryz.ntmps10
  go_upto_region 1 with fail
  rw [← HW0.out]
  go_wp2_with fail
  refine HV.out.mono ?_
  rintro e w2 ⟨rfl, hw2⟩
  rw [hw2]
  clear hw2 HV
  go_wp2_with fail
  generalize (W0.setCell ⟨w.heap.size, 0, none⟩ (.int .i64 0)).setCell ⟨w.heap.size, 1, none⟩ (.slice none 0 0) = W9 at *
  exact bodyPost_ret (v := .tuple #[.agg #[.int .i64 0, .slice none 0 0], .iface 183 (.pointer (some (a (weightsErr z n - 1))))]) (by simp [results, Tryz.results10, go_sem, HG.out.2.1, HG.out.2.2]) rfl ⟨rfl, HBE.out⟩
set_option maxRecDepth 100000 in
set_option maxHeartbeats 2000000 in
theorem Support_bad (a : Nat → Addr) (v : Value) (n : Nat) (z : Nat → Int) (w : World) (hE : Errs w a) (h : NumsAt w v n z) (hn : n ≤ 1000000) (h0 : weightsErr z n ≠ 0) :
    Calls Tryz.prog 11 #[v] w fun e w' => e = .returned (.tuple #[.agg #[.int .i64 0, .slice none 0 0], errV a (weightsErr z n)]) ∧ Below w.heap.size w w' := by
  obtain ⟨W0, hW0⟩ : ∃ W0, W0 = w.alloc (.cells #[.int .i64 0, .slice none 0 0] 27) := ⟨_, rfl⟩
  have hb0 : Below w.heap.size w W0 := by rw [hW0]; exact (Below.refl _ _).alloc (Nat.le_refl _) _
  have c0 : W0.cell? ⟨w.heap.size, 0, none⟩ = some (.int .i64 0) := by rw [hW0]; simp
  have c1 : W0.cell? ⟨w.heap.size, 1, none⟩ = some (.slice none 0 0) := by rw [hW0]; simp
  have f0 : W0.frozen? ⟨w.heap.size, 0, none⟩ = false := by rw [hW0]; simp
  have f1 : W0.frozen? ⟨w.heap.size, 1, none⟩ = false := by rw [hW0]; simp
  have HV := Hid.mk' (Valid_weights a _ n z W0 (hE.below hb0) (h.later hb0) hn)
  obtain ⟨ad, cap, rfl⟩ := h.form
  rw [errV_pos a h0] at HV ⊢
  have HG := Hid.mk' (put_twoR (.int .i64 0) (.slice none 0 0) c0 c1)
  have HBE : Hid (Below w.heap.size w ((W0.setCell ⟨w.heap.size, 0, none⟩ (.int .i64 0)).setCell ⟨w.heap.size, 1, none⟩ (.slice none 0 0))) := (hb0.setCell (Nat.le_refl _) _).setCell (Nat.le_refl _) _
  obtain ⟨q0, _, _⟩ := HG.out
  have HW0 := Hid.mk' hW0
  clear hE h hb0 hW0
  go_enter Tryz.func11, Tryz.ntmps11
  go_upto_region 1 with fail
  rw [← HW0.out]
  go_wp2_with fail
  refine HV.out.mono ?_
  rintro e w2 ⟨rfl, hw2⟩
  rw [hw2]
  clear hw2 HV
  go_wp2_with fail
  generalize (W0.setCell ⟨w.heap.size, 0, none⟩ (.int .i64 0)).setCell ⟨w.heap.size, 1, none⟩ (.slice none 0 0) = W9 at *
  exact bodyPost_ret (v := .tuple #[.agg #[.int .i64 0, .slice none 0 0], .iface 183 (.pointer (some (a (weightsErr z n - 1))))]) (by simp [results, Tryz.results11, go_sem, HG.out.2.1, HG.out.2.2]) rfl ⟨rfl, HBE.out⟩
set_option maxRecDepth 100000 in
set_option maxHeartbeats 2000000 in
theorem Collision_bad (a : Nat → Addr) (v : Value) (n : Nat) (z : Nat → Int) (w : World) (hE : Errs w a) (h : NumsAt w v n z) (hn : n ≤ 1000000) (h0 : weightsErr z n ≠ 0) :
    Calls Tryz.prog 8 #[v] w fun e w' => e = .returned (.tuple #[.agg #[.int .i64 0, .slice none 0 0], errV a (weightsErr z n)]) ∧ Below w.heap.size w w' := by
  obtain ⟨W0, hW0⟩ : ∃ W0, W0 = w.alloc (.cells #[.int .i64 0, .slice none 0 0] 27) := ⟨_, rfl⟩
  have hb0 : Below w.heap.size w W0 := by rw [hW0]; exact (Below.refl _ _).alloc (Nat.le_refl _) _
  have c0 : W0.cell? ⟨w.heap.size, 0, none⟩ = some (.int .i64 0) := by rw [hW0]; simp
  have c1 : W0.cell? ⟨w.heap.size, 1, none⟩ = some (.slice none 0 0) := by rw [hW0]; simp
  have f0 : W0.frozen? ⟨w.heap.size, 0, none⟩ = false := by rw [hW0]; simp
  have f1 : W0.frozen? ⟨w.heap.size, 1, none⟩ = false := by rw [hW0]; simp
  have HV := Hid.mk' (Valid_weights a _ n z W0 (hE.below hb0) (h.later hb0) hn)
  obtain ⟨ad, cap, rfl⟩ := h.form
  rw [errV_pos a h0] at HV ⊢
  have HG := Hid.mk' (put_twoR (.int .i64 0) (.slice none 0 0) c0 c1)
  have HBE : Hid (Below w.heap.size w ((W0.setCell ⟨w.heap.size, 0, none⟩ (.int .i64 0)).setCell ⟨w.heap.size, 1, none⟩ (.slice none 0 0))) := (hb0.setCell (Nat.le_refl _) _).setCell (Nat.le_refl _) _
  obtain ⟨q0, _, _⟩ := HG.out
  have HW0 := Hid.mk' hW0
  clear hE h hb0 hW0
  go_enter Tryz.func8, Tryz.ntmps8
  go_upto_region 1 with fail
  rw [← HW0.out]
  go_wp2_with fail
  refine HV.out.mono ?_
  rintro e w2 ⟨rfl, hw2⟩
  rw [hw2]
  clear hw2 HV
  go_wp2_with fail
  generalize (W0.setCell ⟨w.heap.size, 0, none⟩ (.int .i64 0)).setCell ⟨w.heap.size, 1, none⟩ (.slice none 0 0) = W9 at *
  exact bodyPost_ret (v := .tuple #[.agg #[.int .i64 0, .slice none 0 0], .iface 183 (.pointer (some (a (weightsErr z n - 1))))]) (by simp [results, Tryz.results8, go_sem, HG.out.2.1, HG.out.2.2]) rfl ⟨rfl, HBE.out⟩
set_option maxRecDepth 100000 in
set_option maxHeartbeats 4000000 in
theorem Least_okR (a : Nat → Addr) (v : Value) (n S : Nat) (z : Nat → Int) (w : World) (hE : Errs w a) (h : NumsAt w v n z) (hS : sumN z n = (S : Int)) (hw0 : weightsErr z n = 0) :
    Calls Tryz.prog 10 #[v] w fun e w' => Tells S (mxNR z n) e w' ∧ Below w.heap.size w w' := by
  obtain ⟨h16, hok⟩ := weightsErr_ok hw0
  have hn0 := hok.posN
  obtain ⟨b, o, cap, rfl, hrow⟩ := nums_row h hn0
  have hp := hok.pos
  have hl := hok.le
  obtain ⟨W0, hW0⟩ : ∃ W0, W0 = w.alloc (.cells #[.int .i64 0, .slice none 0 0] 27) := ⟨_, rfl⟩
  have hb0 : Below w.heap.size w W0 := by rw [hW0]; exact (Below.refl _ _).alloc (Nat.le_refl _) _
  have c0 : W0.cell? ⟨w.heap.size, 0, none⟩ = some (.int .i64 0) := by rw [hW0]; simp
  have c1 : W0.cell? ⟨w.heap.size, 1, none⟩ = some (.slice none 0 0) := by rw [hW0]; simp
  have f0 : W0.frozen? ⟨w.heap.size, 0, none⟩ = false := by rw [hW0]; simp
  have f1 : W0.frozen? ⟨w.heap.size, 1, none⟩ = false := by rw [hW0]; simp
  have HC : Hid (∀ W, Below W0.heap.size W0 W → (W.cell? ⟨w.heap.size, 0, none⟩ = some (.int .i64 0) ∧ W.cell? ⟨w.heap.size, 1, none⟩ = some (.slice none 0 0)) ∧ W.frozen? ⟨w.heap.size, 0, none⟩ = false ∧ W.frozen? ⟨w.heap.size, 1, none⟩ = false) := fun W hb => ⟨⟨by rw [hb.cell (cell_lt c0)]; exact c0, by rw [hb.cell (cell_lt c1)]; exact c1⟩, by rw [hb.frozen (show w.heap.size < W0.heap.size from cell_lt c0)]; exact f0, by rw [hb.frozen (show w.heap.size < W0.heap.size from cell_lt c0)]; exact f1⟩
  have HEND : Hid (∀ W, Below W0.heap.size W0 W → Below w.heap.size w W) := fun W hb => hb0.trans (hb.mono hb0.size)
  have HV := Hid.mk' (Valid_weights a _ n z W0 (hE.below hb0) (h.later hb0) (by omega))
  rw [hw0, errV_zero] at HV
  have HTO := Hid.mk' (fun (W : World) (hb : Below W0.heap.size W0 W) => by
    have h9 := total_some b o cap n z W ((hrow.later hb0).later hb) (fun k hk => by have := hok.part hk; omega) (fun k hk => by have := hok.lt hk; omega) (by omega)
    rw [hS] at h9
    exact h9)
  have hS0 : 1 ≤ S := by omega
  have hS4 : S ≤ 4096 := by omega
  have HW0 := Hid.mk' hW0
  have hmx := mxN_atR hok
  have HMX := Hid.mk' (fun (W : World) (hb : Below W0.heap.size W0 W) => by
    have h9 := Max_some b o cap n z W ((hrow.later hb0).later hb) hn0 (by omega)
    rw [← hmx.1] at h9
    exact h9)
  have HOF := Hid.mk' (fun (W : World) => Of_any S (mxNR z n) W hS0 (by omega) hmx.2.1 (by omega))
  clear hE h hrow hok hw0 hS hb0 hW0 hp hl c0 c1 f0 f1 hmx
  generalize mxNR z n = mx at *
  go_enter Tryz.func10, Tryz.ntmps10
  go_upto_region 1 with fail
  rw [← HW0.out]
  go_wp2_with fail
  refine HV.out.mono ?_
  rintro e w2 ⟨rfl, hw2⟩
  rw [hw2]
  clear hw2 HV
  go_wp2_with fail
  refine (HTO.out W0 (Below.refl _ _)).mono ?_
  rintro e w3 ⟨rfl, hwx⟩
  rw [hwx]
  clear hwx
  go_wp2_with fail
  refine (HMX.out W0 (Below.refl _ _)).mono ?_
  rintro e w4 ⟨rfl, hwx⟩
  rw [hwx]
  clear hwx
  go_wp2_with fail
  refine (over_anyR (S : Int) (mx : Int) W0).mono ?_
  rintro e w5 ⟨rfl, hb5⟩
  have HB5 := Hid.mk' hb5
  clear hb5
  go_wp2_with fail
  refine (HOF.out w5).mono ?_
  rintro e wF ⟨u, t, rfl, hu, hi, hbF⟩
  obtain ⟨ua, un, uc, rfl⟩ := (show ∃ ua un uc, u = .slice ua un uc from by rcases hu with ⟨rfl, _⟩ | ⟨g, cp, rfl, _⟩ <;> exact ⟨_, _, _, rfl⟩)
  have hcurF := below_chain HB5.out hbF
  obtain ⟨⟨d0, d1⟩, d2, d3⟩ := HC.out wF hcurF
  have HG := Hid.mk' (put_twoR (.int .i64 1) (.slice ua un uc) d0 d1)
  have HUU : Hid (ListAt ((wF.setCell ⟨w.heap.size, 0, none⟩ (.int .i64 1)).setCell ⟨w.heap.size, 1, none⟩ (.slice ua un uc)) (.slice ua un uc) t) := own_setR hu d1
  have HII := Hid.mk' hi
  have HBE : Hid (Below w.heap.size w ((wF.setCell ⟨w.heap.size, 0, none⟩ (.int .i64 1)).setCell ⟨w.heap.size, 1, none⟩ (.slice ua un uc))) := ((HEND.out wF hcurF).setCell (Nat.le_refl _) _).setCell (Nat.le_refl _) _
  obtain ⟨q0, _, _⟩ := HG.out
  clear hbF hu hi hcurF
  go_wp2_with fail
  generalize (wF.setCell ⟨w.heap.size, 0, none⟩ (.int .i64 1)).setCell ⟨w.heap.size, 1, none⟩ (.slice ua un uc) = W9 at *
  exact bodyPost_ret (v := .tuple #[.agg #[.int .i64 1, .slice ua un uc], .nilIface]) (by simp [results, Tryz.results10, go_sem, HG.out.2.1, HG.out.2.2]) rfl ⟨⟨_, t, rfl, HUU.out, HII.out⟩, HBE.out⟩
set_option maxRecDepth 100000 in
set_option maxHeartbeats 4000000 in
theorem Support_ok (a : Nat → Addr) (v : Value) (n S : Nat) (z : Nat → Int) (w : World) (hE : Errs w a) (h : NumsAt w v n z) (hS : sumN z n = (S : Int)) (hw0 : weightsErr z n = 0) :
    Calls Tryz.prog 11 #[v] w fun e w' => Tells (cntP z n) 1 e w' ∧ Below w.heap.size w w' := by
  obtain ⟨h16, hok⟩ := weightsErr_ok hw0
  have hn0 := hok.posN
  obtain ⟨b, o, cap, rfl, hrow⟩ := nums_row h hn0
  have hp := hok.pos
  have hl := hok.le
  obtain ⟨W0, hW0⟩ : ∃ W0, W0 = w.alloc (.cells #[.int .i64 0, .slice none 0 0] 27) := ⟨_, rfl⟩
  have hb0 : Below w.heap.size w W0 := by rw [hW0]; exact (Below.refl _ _).alloc (Nat.le_refl _) _
  have c0 : W0.cell? ⟨w.heap.size, 0, none⟩ = some (.int .i64 0) := by rw [hW0]; simp
  have c1 : W0.cell? ⟨w.heap.size, 1, none⟩ = some (.slice none 0 0) := by rw [hW0]; simp
  have f0 : W0.frozen? ⟨w.heap.size, 0, none⟩ = false := by rw [hW0]; simp
  have f1 : W0.frozen? ⟨w.heap.size, 1, none⟩ = false := by rw [hW0]; simp
  have HC : Hid (∀ W, Below W0.heap.size W0 W → (W.cell? ⟨w.heap.size, 0, none⟩ = some (.int .i64 0) ∧ W.cell? ⟨w.heap.size, 1, none⟩ = some (.slice none 0 0)) ∧ W.frozen? ⟨w.heap.size, 0, none⟩ = false ∧ W.frozen? ⟨w.heap.size, 1, none⟩ = false) := fun W hb => ⟨⟨by rw [hb.cell (cell_lt c0)]; exact c0, by rw [hb.cell (cell_lt c1)]; exact c1⟩, by rw [hb.frozen (show w.heap.size < W0.heap.size from cell_lt c0)]; exact f0, by rw [hb.frozen (show w.heap.size < W0.heap.size from cell_lt c0)]; exact f1⟩
  have HEND : Hid (∀ W, Below W0.heap.size W0 W → Below w.heap.size w W) := fun W hb => hb0.trans (hb.mono hb0.size)
  have HV := Hid.mk' (Valid_weights a _ n z W0 (hE.below hb0) (h.later hb0) (by omega))
  rw [hw0, errV_zero] at HV
  have HTO := Hid.mk' (fun (W : World) (hb : Below W0.heap.size W0 W) => by
    have h9 := total_some b o cap n z W ((hrow.later hb0).later hb) (fun k hk => by have := hok.part hk; omega) (fun k hk => by have := hok.lt hk; omega) (by omega)
    rw [hS] at h9
    exact h9)
  have hS0 : 1 ≤ S := by omega
  have hS4 : S ≤ 4096 := by omega
  have HW0 := Hid.mk' hW0
  have HRW := Hid.mk' (hrow.later hb0)
  have HCL := Hid.mk' (fun k => cntP_le z k)
  have HCP := Hid.mk' (cntP_pos hok.nn hp)
  have HOF := Hid.mk' (fun (W : World) (h1 : 1 ≤ cntP z n) (h2 : cntP z n ≤ 1000000) => Of_any (cntP z n) 1 W h1 h2 (Nat.le_refl _) (by decide))
  have HLT := Hid.mk' (fun i (hi : i < n) => hok.lt hi)
  clear hE h hrow hok hw0 hS hb0 hW0 hp hl c0 c1 f0 f1 HTO
  go_enter Tryz.func11, Tryz.ntmps11
  go_upto_region 1 with fail
  rw [← HW0.out]
  go_wp2_with fail
  refine HV.out.mono ?_
  rintro e w2 ⟨rfl, hw2⟩
  rw [hw2]
  clear hw2 HV
  go_wp2_with fail
  go_loop [5, 16] (fun s t => ∃ k : Nat, k ≤ n ∧ s = .int .i64 (cntP z k : Nat) ∧ t = .int .i64 (k : Int)) (fun _ t => n - (intOf t).toNat)
  case atStart => exact ⟨0, Nat.zero_le _, rfl, rfl⟩
  case round =>
  obtain ⟨k, hk, rfl, rfl⟩ := hrel
  have hcl := HCL.out k
  rcases Nat.lt_or_ge k n with h1 | h1
  · have hkI : (k : Int) < (n : Int) := by omega
    have hk0 : (0 : Int) ≤ (k : Int) := by omega
    have hc := HRW.out k h1
    have HN : Hid (cntP z (k + 1) = cntP z k + if 0 < z k then 1 else 0) := rfl
    generalize cntP z k = s at *
    generalize z k = x at *
    by_cases hx : 0 < x
    · rw [if_pos hx] at HN
      go_wp2_with fail
      exact ⟨⟨k + 1, h1, by rw [HN.out]; go_num, by go_num⟩, by simp [intOf]; omega⟩
    · rw [if_neg hx, Nat.add_zero] at HN
      go_wp2_with fail
      exact ⟨⟨k + 1, h1, by rw [HN.out, Nat.add_zero], by go_num⟩, by simp [intOf]; omega⟩
  obtain rfl : k = n := by omega
  have hkI : ¬ (k : Int) < (k : Int) := by omega
  have HO := Hid.mk' (fun W => HOF.out W HCP.out (by omega))
  clear HOF HCP HCL HRW hcl HLT
  go_wp2_with fail
  refine (over_anyR (cntP z k : Int) 1 W0).mono ?_
  rintro e w5 ⟨rfl, hb5⟩
  have HB5 := Hid.mk' hb5
  clear hb5
  go_wp2_with fail
  refine (HO.out w5).mono ?_
  rintro e wF ⟨u, t, rfl, hu, hi, hbF⟩
  obtain ⟨ua, un, uc, rfl⟩ := (show ∃ ua un uc, u = .slice ua un uc from by rcases hu with ⟨rfl, _⟩ | ⟨g, cp, rfl, _⟩ <;> exact ⟨_, _, _, rfl⟩)
  have hcurF := below_chain HB5.out hbF
  obtain ⟨⟨d0, d1⟩, d2, d3⟩ := HC.out wF hcurF
  have HG := Hid.mk' (put_twoR (.int .i64 1) (.slice ua un uc) d0 d1)
  have HUU : Hid (ListAt ((wF.setCell ⟨w.heap.size, 0, none⟩ (.int .i64 1)).setCell ⟨w.heap.size, 1, none⟩ (.slice ua un uc)) (.slice ua un uc) t) := own_setR hu d1
  have HII := Hid.mk' hi
  have HBE : Hid (Below w.heap.size w ((wF.setCell ⟨w.heap.size, 0, none⟩ (.int .i64 1)).setCell ⟨w.heap.size, 1, none⟩ (.slice ua un uc))) := ((HEND.out wF hcurF).setCell (Nat.le_refl _) _).setCell (Nat.le_refl _) _
  obtain ⟨q0, _, _⟩ := HG.out
  clear hbF hu hi hcurF
  go_wp2_with fail
  generalize (wF.setCell ⟨w.heap.size, 0, none⟩ (.int .i64 1)).setCell ⟨w.heap.size, 1, none⟩ (.slice ua un uc) = W9 at *
  exact bodyPost_ret (v := .tuple #[.agg #[.int .i64 1, .slice ua un uc], .nilIface]) (by simp [results, Tryz.results11, go_sem, HG.out.2.1, HG.out.2.2]) rfl ⟨⟨_, t, rfl, HUU.out, HII.out⟩, HBE.out⟩
end Go.Proofs.YtklhfagcembigaaGreatDoor
