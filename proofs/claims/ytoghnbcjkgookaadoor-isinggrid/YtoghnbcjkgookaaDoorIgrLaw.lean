/- IsingGrid: the law. -/
import Derived.Test.YtoghnbcjkgookaaDoorIsBond
import Derived.Test.YtoghnbcjkgookaaDoorIsSame
import Derived.Test.YtoghnbcjkgookaaDoorIsGrid3
namespace Go.Proofs.YtoghnbcjkgookaaDoor
open Go.RowKit

set_option maxRecDepth 100000 in
set_option maxHeartbeats 8000000 in
theorem IsingGrid_no (a : Nat → Addr) (h l : Int) (w : World) (hE : Errs w a) (hg : ¬ isGr h l) :
    Calls Tryd.prog 7 #[.int .i64 h, .int .i64 l] w fun e w' => e = .returned (.bool true) ∧ Below w.heap.size w w' := by
  have HPE := Hid.mk' (bond_any a w hE)
  have HSE := Hid.mk' (fun W => sidesError_no h l W hg)
  have HGR : Hid (∀ W, Below w.heap.size w W → Calls Tryd.prog 25 #[.int .i64 h, .int .i64 l] W fun e w' => e = .returned (.tuple #[.agg #[.int .i64 0, .slice none 0 0], errV a 2]) ∧ Below W.heap.size W w') := fun W hb => Grid_no a h l W (hE.below hb) hg
  have HCO : Hid (∀ W, Below w.heap.size w W → Calls Tryd.prog 11 #[errV a 2, .int .i64 2] W fun e w' => e = .returned (.bool true) ∧ Below W.heap.size W w') := fun W hb => coded_errV a 2 (by decide) W (hE.below hb)
  have HR2 : Hid (errV a 2 = .iface 106 (.pointer (some (a 1)))) := rfl
  rw [HR2.out] at HGR HCO
  clear hE hg
  go_enter Tryd.func7, Tryd.ntmps7
  go_wp2_with fail
  refine HPE.out.mono ?_
  rintro e w2 ⟨rfl, hb2⟩
  have HB2 := Hid.mk' hb2
  clear hb2 HPE
  go_wp2_with fail
  refine (HSE.out _).mono ?_
  rintro e w3 ⟨rfl, hw3⟩
  rw [hw3]
  clear hw3 HSE
  obtain ⟨W4, hW4⟩ : ∃ W, W = w2.alloc (.cells #[.int .i64 0, .slice none 0 0] 24) := ⟨_, rfl⟩
  have HB4 : Hid (Below w.heap.size w W4) := by show Below _ _ _; rw [hW4]; exact HB2.out.alloc HB2.out.size _
  have HW4 := Hid.mk' hW4
  clear hW4
  go_wp2_with fail
  rw [← HW4.out]
  refine (HGR.out _ HB4.out).mono ?_
  rintro e w5 ⟨rfl, hb5⟩
  have HB5 := Hid.mk' (below_chain HB4.out hb5)
  clear hb5 HGR
  obtain ⟨W6, hW6⟩ : ∃ W, W = w5.alloc (.cells #[.int .i64 0, .slice none 0 0] 31) := ⟨_, rfl⟩
  have HB6 : Hid (Below w.heap.size w W6) := by show Below _ _ _; rw [hW6]; exact HB5.out.alloc HB5.out.size _
  have c0 : W6.cell? ⟨w5.heap.size, 0, none⟩ = some (.int .i64 0) := by rw [hW6]; go_simp
  have c1 : W6.cell? ⟨w5.heap.size, 1, none⟩ = some (.slice none 0 0) := by rw [hW6]; go_simp
  have HC : Hid (∀ W, Below W6.heap.size W6 W → W.cell? ⟨w5.heap.size, 0, none⟩ = some (.int .i64 0) ∧ W.cell? ⟨w5.heap.size, 1, none⟩ = some (.slice none 0 0)) := fun W hb => ⟨by rw [hb.cell (cell_lt c0)]; exact c0, by rw [hb.cell (cell_lt c1)]; exact c1⟩
  have HW6 := Hid.mk' hW6
  clear hW6 c0 c1
  go_wp2_with fail
  rw [← HW6.out]
  refine (HCO.out _ HB6.out).mono ?_
  rintro e w7 ⟨rfl, hb7⟩
  obtain ⟨c0, c1⟩ := HC.out _ hb7
  have HB7 := Hid.mk' (below_chain HB6.out hb7)
  clear hb7
  go_wp2_with fail
  go_ret
  exact ⟨rfl, HB7.out⟩

set_option maxRecDepth 100000 in
set_option maxHeartbeats 8000000 in
theorem IsingGrid_yes (a : Nat → Addr) (h l : Nat) (w : World) (hE : Errs w a) (hg : isGr h l) :
    Calls Tryd.prog 7 #[.int .i64 h, .int .i64 l] w fun e w' => e = .returned (.bool true) ∧ Below w.heap.size w w' := by
  have hg' := hg
  obtain ⟨h1, h2, h3, h4⟩ := hg'
  have hh1 : 2 ≤ h := by omega
  have hh : h ≤ 4 := by omega
  have hl1 : 2 ≤ l := by omega
  have hl : l ≤ 12 := by omega
  have HPE := Hid.mk' (bond_any a w hE)
  have HSE := Hid.mk' (fun W => sidesError_yes h l W hg)
  obtain ⟨X, hX⟩ : ∃ X : Nat, X = h * l := ⟨_, rfl⟩
  have hX48 : X ≤ 48 := by rw [hX]; exact Nat.mul_le_mul hh hl
  have hXI : (h : Int) * (l : Int) = (X : Int) := by rw [hX]; simp
  have HXE := Hid.mk' hX
  clear hX
  have HLE : Hid ((grE' h l).length ≤ 96) := allB_small _ _ _ hh hl
  have HGR : Hid (∀ W, Below w.heap.size w W → Calls Tryd.prog 25 #[.int .i64 h, .int .i64 l] W fun e w' => ∃ u, e = .returned u ∧ GrRes a (X : Int) (grE' h l) (syE (X : Int) (grE' h l).length (fsE (grE' h l)) (snE (grE' h l))) u w' ∧ Below W.heap.size W w') := fun W hb => by rw [HXE.out]; exact Grid_yes a h l W (hE.below hb) hg
  have HDB : Hid (∀ W, Calls Tryd.prog 23 #[.int .i64 h, .int .i64 l, .bool false] W fun e w' => ∃ v, e = .returned v ∧ w'.ownsRow W.heap.size 50 2 v (grE' h l).length (pairCells (grE' h l)) ∧ Below W.heap.size W w') := fun W => by have := StripBonds_any h l false W (by omega) hh (by omega) hl; rwa [strB_grid] at this
  have HSY : Hid (∀ W v, EdAt W v (grE' h l).length (fsE (grE' h l)) (snE (grE' h l)) → Calls Tryd.prog 14 #[.agg #[.int .i64 (X : Int), v]] W fun e w' => e = .returned (.int .i64 (syE (X : Int) (grE' h l).length (fsE (grE' h l)) (snE (grE' h l)) : Nat)) ∧ Below W.heap.size W w') := fun W v hv => SystemError_any _ _ v _ _ W hv (by have := HLE.out; omega)
  have HCO : Hid (∀ W, Below w.heap.size w W → Calls Tryd.prog 11 #[errV a 2, .int .i64 2] W fun e w' => e = .returned (.bool true) ∧ Below W.heap.size W w') := fun W hb => coded_errV a 2 (by decide) W (hE.below hb)
  have HSB : Hid (∀ W v u, EdAt W v (grE' h l).length (fsE (grE' h l)) (snE (grE' h l)) → EdAt W u (grE' h l).length (fsE (grE' h l)) (snE (grE' h l)) → Calls Tryd.prog 26 #[v, u] W fun e w' => e = .returned (.bool true) ∧ Below W.heap.size W w') := fun W v u hv hu => SameBonds_any _ v u _ _ W hv hu (by have := HLE.out; omega)
  have HR2 : Hid (errV a 2 = .iface 106 (.pointer (some (a 1)))) := rfl
  have hhI : (h : Int) ≤ 4 := by omega
  have hlI : (l : Int) ≤ 12 := by omega
  have hh0 : (2 : Int) ≤ (h : Int) := by omega
  have hl0 : (2 : Int) ≤ (l : Int) := by omega
  generalize grE' h l = E at *
  generalize hsE : syE (X : Int) E.length (fsE E) (snE E) = sE at *
  clear hE hg h1 h2 h3 h4 hh hl hh1 hl1 hsE
  go_enter Tryd.func7, Tryd.ntmps7
  go_wp2_with fail
  refine HPE.out.mono ?_
  rintro e w2 ⟨rfl, hb2⟩
  have HB2 := Hid.mk' hb2
  clear hb2 HPE
  go_wp2_with fail
  refine (HSE.out _).mono ?_
  rintro e w3 ⟨rfl, hw3⟩
  rw [hw3]
  clear hw3 HSE
  obtain ⟨W4, hW4⟩ : ∃ W, W = w2.alloc (.cells #[.int .i64 0, .slice none 0 0] 24) := ⟨_, rfl⟩
  have hb4 : Below w2.heap.size w2 W4 := by rw [hW4]; exact (Below.refl _ _).alloc (Nat.le_refl _) _
  have z0 : W4.cell? ⟨w2.heap.size, 0, none⟩ = some (.int .i64 0) := by rw [hW4]; go_simp
  have z1 : W4.cell? ⟨w2.heap.size, 1, none⟩ = some (.slice none 0 0) := by rw [hW4]; go_simp
  have zf0 : W4.frozen? ⟨w2.heap.size, 0, none⟩ = false := by rw [hW4]; go_simp
  have zf1 : W4.frozen? ⟨w2.heap.size, 1, none⟩ = false := by rw [hW4]; go_simp
  have HZ : Hid (∀ W, Below W4.heap.size W4 W → W.cell? ⟨w2.heap.size, 0, none⟩ = some (.int .i64 0) ∧ W.cell? ⟨w2.heap.size, 1, none⟩ = some (.slice none 0 0) ∧ W.frozen? ⟨w2.heap.size, 0, none⟩ = false ∧ W.frozen? ⟨w2.heap.size, 1, none⟩ = false) := fun W hb => ⟨by rw [hb.cell (cell_lt z0)]; exact z0, by rw [hb.cell (cell_lt z1)]; exact z1, by rw [hb.frozen (p := ⟨w2.heap.size, 0, none⟩) (cell_lt z0)]; exact zf0, by rw [hb.frozen (p := ⟨w2.heap.size, 1, none⟩) (cell_lt z1)]; exact zf1⟩
  have HLZ : Hid (w2.heap.size < W4.heap.size) := cell_lt z0
  have HB4 := Hid.mk' (below_chain HB2.out hb4)
  have HW4 := Hid.mk' hW4
  clear hW4 hb4 z0 z1 zf0 zf1
  go_wp2_with fail
  rw [← HW4.out]
  refine (HDB.out _).mono ?_
  rintro e w5 ⟨u5, rfl, h5, hb5⟩
  obtain ⟨z0, z1, zf0, zf1⟩ := HZ.out _ hb5
  obtain ⟨ao, co, rfl, _⟩ := row_shape2 h5
  obtain ⟨W6, hW6⟩ : ∃ W, W = (w5.setCell ⟨w2.heap.size, 0, none⟩ (.int .i64 (X : Int))).setCell ⟨w2.heap.size, 1, none⟩ (.slice ao E.length co) := ⟨_, rfl⟩
  have hb6 : Below w.heap.size w W6 := by
    rw [hW6]
    exact ((below_chain HB4.out hb5).setCell HB2.out.size _).setCell HB2.out.size _
  have y0 : W6.cell? ⟨w2.heap.size, 0, none⟩ = some (.int .i64 (X : Int)) := by
    rw [hW6, World.cell?_setCell_other _ _ _ _ (by simp), World.cell?_setCell_same _ _ _ z0]
  have y1 : W6.cell? ⟨w2.heap.size, 1, none⟩ = some (.slice ao E.length co) := by
    rw [hW6]
    exact World.cell?_setCell_same _ _ _ (by rw [World.cell?_setCell_other _ _ _ _ (by simp)]; exact z1)
  have HY : Hid (∀ W, Below W6.heap.size W6 W → W.cell? ⟨w2.heap.size, 0, none⟩ = some (.int .i64 (X : Int)) ∧ W.cell? ⟨w2.heap.size, 1, none⟩ = some (.slice ao E.length co)) := fun W hb => ⟨by rw [hb.cell (cell_lt y0)]; exact y0, by rw [hb.cell (cell_lt y1)]; exact y1⟩
  have HEd : Hid (EdAt W6 (.slice ao E.length co) E.length (fsE E) (snE E)) := by
    rw [hW6]
    exact edAt_row (ownsRow_setCell_below (ownsRow_setCell_below h5 (a := ⟨w2.heap.size, 0, none⟩) HLZ.out _) (a := ⟨w2.heap.size, 1, none⟩) HLZ.out _)
  have HB6 := Hid.mk' hb6
  have HW6 := Hid.mk' hW6
  clear h5 hb5 hW6 hb6 HDB HZ HW4
  go_wp2_with fail
  rw [← HW6.out]
  clear z0 z1 zf0 zf1 HW6
  refine (HSY.out _ _ HEd.out).mono ?_
  rintro e w7 ⟨rfl, hb7⟩
  have HB7 := Hid.mk' (below_chain HB6.out hb7)
  have HY7 : Hid (∀ W, Below w7.heap.size w7 W → W.cell? ⟨w2.heap.size, 0, none⟩ = some (.int .i64 (X : Int)) ∧ W.cell? ⟨w2.heap.size, 1, none⟩ = some (.slice ao E.length co)) := fun W hb => HY.out W (below_chain hb7 hb)
  have HEd7 : Hid (∀ W, Below w7.heap.size w7 W → EdAt W (.slice ao E.length co) E.length (fsE E) (snE E)) := fun W hb => HEd.out.later (below_chain hb7 hb)
  clear hb7 y0 y1 HY HEd HB6 HSY
  go_wp2_with fail
  refine (HGR.out _ HB7.out).mono ?_
  rintro e w8 ⟨u8, rfl, h8, hb8⟩
  by_cases h0 : sE = 0
  · obtain ⟨v8, rfl, hv8⟩ : ∃ v, u8 = .tuple #[.agg #[.int .i64 (X : Int), v], .nilIface] ∧ EdAt w8 v E.length (fsE E) (snE E) := by unfold GrRes at h8; rwa [if_pos h0] at h8
    have h0I : ¬ ((0 : Int) < ((sE : Nat) : Int)) := by omega
    have h0J : ¬ (0 < sE) := by omega
    obtain ⟨a8, k8, rfl, -⟩ := id hv8
    have HB8 := Hid.mk' (below_chain HB7.out hb8)
    obtain ⟨W9, hW9⟩ : ∃ W, W = w8.alloc (.cells #[.int .i64 (X : Int), .slice a8 E.length k8] 31) := ⟨_, rfl⟩
    have hb9 : Below w8.heap.size w8 W9 := by rw [hW9]; exact (Below.refl _ _).alloc (Nat.le_refl _) _
    have HB9 := Hid.mk' (below_chain HB8.out hb9)
    have c0 : W9.cell? ⟨w8.heap.size, 0, none⟩ = some (.int .i64 (X : Int)) := by rw [hW9]; go_simp
    have c1 : W9.cell? ⟨w8.heap.size, 1, none⟩ = some (.slice a8 E.length k8) := by rw [hW9]; go_simp
    obtain ⟨d0, d1⟩ := HY7.out _ (below_chain hb8 hb9)
    have HSC := Hid.mk' (HSB.out W9 _ _ (hv8.later hb9) (HEd7.out _ (below_chain hb8 hb9)))
    have HW9 := Hid.mk' hW9
    have hXX : (((X : Int) : Int) == ((X : Int) : Int)) = true := by simp
    have hXN : (((X : Int) : Int) != ((X : Int) : Int)) = false := by simp
    have hLN : ((E.length : Int) != (E.length : Int)) = false := by simp
    clear hW9 hb9 hv8 h8 hb8 h0 HGR HSB HCO
    go_upto_region 10 with fail
    rw [← HW9.out]
    clear HW9
    go_wp2_with fail
    refine HSC.out.mono ?_
    rintro e w10 ⟨rfl, hb10⟩
    have HB10 := Hid.mk' (below_chain HB9.out hb10)
    clear hb10
    go_wp2_with fail
    go_ret
    exact ⟨rfl, HB10.out⟩
  · obtain rfl : u8 = .tuple #[.agg #[.int .i64 0, .slice none 0 0], errV a 2] := by unfold GrRes at h8; rwa [if_neg h0] at h8
    have h0I : (0 : Int) < ((sE : Nat) : Int) := by omega
    have h0J : 0 < sE := by omega
    rw [HR2.out] at HCO
    rw [HR2.out]
    have HB8 := Hid.mk' (below_chain HB7.out hb8)
    obtain ⟨W6, hW6⟩ : ∃ W, W = w8.alloc (.cells #[.int .i64 0, .slice none 0 0] 31) := ⟨_, rfl⟩
    have HB6 : Hid (Below w.heap.size w W6) := by show Below _ _ _; rw [hW6]; exact HB8.out.alloc HB8.out.size _
    have c0 : W6.cell? ⟨w8.heap.size, 0, none⟩ = some (.int .i64 0) := by rw [hW6]; go_simp
    have c1 : W6.cell? ⟨w8.heap.size, 1, none⟩ = some (.slice none 0 0) := by rw [hW6]; go_simp
    have HC : Hid (∀ W, Below W6.heap.size W6 W → W.cell? ⟨w8.heap.size, 0, none⟩ = some (.int .i64 0) ∧ W.cell? ⟨w8.heap.size, 1, none⟩ = some (.slice none 0 0)) := fun W hb => ⟨by rw [hb.cell (cell_lt c0)]; exact c0, by rw [hb.cell (cell_lt c1)]; exact c1⟩
    have HW6 := Hid.mk' hW6
    clear hW6 c0 c1 h8 hb8 h0 HGR HSB
    go_wp2_with fail
    rw [← HW6.out]
    refine (HCO.out _ HB6.out).mono ?_
    rintro e w9 ⟨rfl, hb9⟩
    obtain ⟨c0, c1⟩ := HC.out _ hb9
    have HB9 := Hid.mk' (below_chain HB6.out hb9)
    clear hb9
    go_wp2_with fail
    go_ret
    exact ⟨rfl, HB9.out⟩

theorem IsingGrid_all (a : Nat → Addr) (h l : Int) (w : World) (hE : Errs w a) :
    Calls Tryd.prog 7 #[.int .i64 h, .int .i64 l] w fun e w' => e = .returned (.bool true) ∧ Below w.heap.size w w' := by
  by_cases hg : isGr h l
  · have hg' := hg
    obtain ⟨h1, h2, h3, h4⟩ := hg'
    obtain ⟨H, rfl⟩ : ∃ H : Nat, h = H := ⟨h.toNat, by omega⟩
    obtain ⟨L, rfl⟩ : ∃ L : Nat, l = L := ⟨l.toNat, by omega⟩
    exact IsingGrid_yes a H L w hE hg
  · exact IsingGrid_no a h l w hE hg
end Go.Proofs.YtoghnbcjkgookaaDoor
