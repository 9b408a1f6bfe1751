/- demonlaw1.LogsProducts: the walk itself. -/
import Derived.Test.YtiecbconcdncmabDoorProductsWalk
namespace Go.Proofs.YtiecbconcdncmabDoor
open Go.RowKit Go.Maps

theorem LB.slice {W : World} {B : Nat} {v : Value} {t : List (Int × Int)} (h : LB W B v t) : ∃ ad n cap, v = .slice ad n cap := by
  obtain ⟨ad, cap, rfl, _⟩ := log_of_own h.list
  exact ⟨_, _, _, rfl⟩
theorem listAt_slice {W : World} {v : Value} {t : List (Int × Int)} (h : ListAt W v t) : ∃ ad n cap, v = .slice ad n cap := by
  obtain ⟨ad, cap, rfl, _⟩ := log_of_own h
  exact ⟨_, _, _, rfl⟩
theorem alloc_below (w : World) (X : Obj) : Below w.heap.size w (w.alloc X) := (Below.refl _ _).alloc (Nat.le_refl _) _

theorem Sign_of (a b : Nat) (v : Value) (t : List (Int × Int)) (ea : Nat → Addr) (w : World) (h : Errs w ea) (hl : ListAt w v t) (hi : IsOf a b t) (ha : 1 ≤ a) (ha6 : a ≤ 1000) (hb : 1 ≤ b) (hb6 : b ≤ 1000) (z : Int) (hz : (a < b → z = -1) ∧ (b < a → z = 1) ∧ (a = b → z = 0)) :
    Calls Tryd.prog 8 #[.agg #[.int .i64 1, v]] w fun e w' => e = .returned (.tuple #[.int .i64 z, .nilIface]) ∧ Below w.heap.size w w' := by
  have hok := hi.ok (by omega) (by omega) (by omega) (by omega)
  have hte := hi.terms (by omega) (by omega) (by omega) (by omega)
  obtain ⟨k, j, hk, hj, hlen⟩ := hi.len
  have hk9 := log2_of hk ha6
  have hj9 := log2_of hj hb6
  have hcost := cost_small (n := t.length) (p := pOf t) (c := cOf t) (fun i hi => by
    have h := hte _ (getD_mem hi)
    exact ⟨h.1.2.2.2.2.1, h.1.1, h.2.1, h.2.2⟩) t.length (Nat.le_refl _)
  obtain ⟨hs, hU, hD⟩ := hi.sides (by omega) (by omega) (by omega) (by omega)
  obtain ⟨o1, o2, o3⟩ := sides_order hs hU hD
  have hsg := Sign_any 1 v t.length (pOf t) (cOf t) ea true true ⟨fun _ => hok, fun _ => rfl⟩ ⟨fun _ => by omega, fun _ => rfl⟩ w h hl (by omega)
  have hc : cmpOf (sideUp (pOf t) (cOf t) 1 t.length) (sideDown (pOf t) (cOf t) 1 t.length) = z := by
    rcases Nat.lt_trichotomy a b with h1 | h1 | h1
    · rw [cmpOf_lt (o1 h1), hz.1 h1]
    · rw [cmpOf_eq (o3 h1 (by omega)), hz.2.2 h1]
    · rw [cmpOf_gt (o2 h1), hz.2.1 h1]
  simp only [Bool.and_true, if_true, powErr, hc] at hsg
  exact hsg

set_option maxRecDepth 100000 in
set_option maxHeartbeats 2000000 in
theorem LogsProducts_in (a b : Nat) (ea : Nat → Addr) (w : World) (h : Errs w ea) (ha : 1 ≤ a) (ha3 : a ≤ 1000) (hb : 1 ≤ b) (hb3 : b ≤ 1000) :
    Calls Tryd.prog 3 #[.int .i64 a, .int .i64 b] w fun e w' => e = .returned (.bool true) ∧ Below w.heap.size w w' := by
  have hE := eighth_any w
  have HE0 := Hid.mk' h
  have hab : 1 ≤ a * b ∧ a * b ≤ 1000000 := ⟨Nat.mul_pos ha hb, Nat.mul_le_mul ha3 hb3⟩
  have hcast : ((a * b : Nat) : Int) = (a : Int) * (b : Int) := Int.natCast_mul a b
  have habI : (0 : Int) ≤ (a : Int) * (b : Int) ∧ (a : Int) * (b : Int) ≤ 1000000 := by rw [← hcast]; omega
  have HAB := Hid.mk' hab
  have HCA := Hid.mk' hcast
  clear h hab hcast
  go_enter Tryd.func3, Tryd.ntmps3
  go_wp2_with fail
  refine hE.mono ?_
  clear hE
  rintro e w0 ⟨rfl, hb0⟩
  have HB0 := Hid.mk' hb0
  have hof := Of_any a 1 w0 ha (by omega) (by omega) (by omega)
  clear hb0
  go_wp2_with fail
  refine hof.mono ?_
  clear hof
  rintro e w1 ⟨v1, t1, rfl, hl1, hi1, hb1⟩
  obtain ⟨ad1, n1, cap1, rfl⟩ := listAt_slice hl1
  have HB1 := Hid.mk' (below_chain HB0.out hb1)
  have HX := Hid.mk' (LB.new hl1)
  have HI1 := Hid.mk' hi1
  have hof := Of_any b 1 (w1.alloc (.cells #[.int .i64 1, .slice ad1 n1 cap1] 25)) hb (by omega) (by omega) (by omega)
  clear hl1 hi1 hb1 HB0
  go_wp2_with fail
  refine hof.mono ?_
  clear hof
  rintro e w2 ⟨v2, t2, rfl, hl2, hi2, hb2⟩
  obtain ⟨ad2, n2, cap2, rfl⟩ := listAt_slice hl2
  have HB2 := Hid.mk' (below_chain (below_chain HB1.out (alloc_below _ _)) hb2)
  have HX2 := Hid.mk' ((HX.out.later hb2).more (.cells #[.int .i64 1, .slice ad2 n2 cap2] 25))
  have HY2 := Hid.mk' (LB.new hl2)
  have HI2 := Hid.mk' hi2
  have hof := Of_any (a * b) 1 (w2.alloc (.cells #[.int .i64 1, .slice ad2 n2 cap2] 25)) HAB.out.1 HAB.out.2 (by omega) (by omega)
  rw [HCA.out] at hof
  have hz2 := hb2.size
  simp at hz2
  clear hl2 hi2 hb2 HB1 HX
  go_wp2_with fail
  refine hof.mono ?_
  clear hof
  rintro e w3 ⟨v3, t3, rfl, hl3, hi3, hb3'⟩
  obtain ⟨ad3, n3, cap3, rfl⟩ := listAt_slice hl3
  have HB3 := Hid.mk' (below_chain (below_chain HB2.out (alloc_below _ _)) hb3')
  have HX3 := Hid.mk' ((HX2.out.later hb3').more (.cells #[.int .i64 1, .slice ad3 n3 cap3] 25))
  have HY3 := Hid.mk' ((HY2.out.later hb3').more (.cells #[.int .i64 1, .slice ad3 n3 cap3] 25))
  have HZ3 := Hid.mk' (LB.new hl3)
  have HI3 := Hid.mk' hi3
  have hof := Of_any a b (w3.alloc (.cells #[.int .i64 1, .slice ad3 n3 cap3] 25)) ha (by omega) hb (by omega)
  have hz3 := hb3'.size
  simp at hz3
  clear hl3 hi3 hb3' HB2 HX2 HY2
  go_wp2_with fail
  refine hof.mono ?_
  clear hof
  rintro e w4 ⟨v4, t4, rfl, hl4, hi4, hb4⟩
  obtain ⟨ad4, n4, cap4, rfl⟩ := listAt_slice hl4
  have HB4 := Hid.mk' (below_chain (below_chain HB3.out (alloc_below _ _)) hb4)
  have HX4 := Hid.mk' ((HX3.out.later hb4).more (.cells #[.int .i64 1, .slice ad4 n4 cap4] 25))
  have HY4 := Hid.mk' ((HY3.out.later hb4).more (.cells #[.int .i64 1, .slice ad4 n4 cap4] 25))
  have HZ4 := Hid.mk' ((HZ3.out.later hb4).more (.cells #[.int .i64 1, .slice ad4 n4 cap4] 25))
  have HQ4 := Hid.mk' (LB.new hl4)
  have HI4 := Hid.mk' hi4
  have hz4 := hb4.size
  simp at hz4
  have hE4 : Errs (w4.alloc (.cells #[.int .i64 1, .slice ad4 n4 cap4] 25)) ea := HE0.out.below (below_chain HB4.out (alloc_below _ _))
  obtain ⟨k1, j1, hk1, hj1, hlen1⟩ := HI1.out.len
  obtain ⟨k2, j2, hk2, hj2, hlen2⟩ := HI2.out.len
  obtain ⟨k4, j4, hk4, hj4, hlen4⟩ := HI4.out.len
  have e1 := log2_of hk1 ha3
  have e2 := log2_of hk2 hb3
  have e3 := log2_of hk4 ha3
  have e4 := log2_of hj4 hb3
  have e5 := log2_of hj1 (by omega)
  have e6 := log2_of hj2 (by omega)
  have hok1 := HI1.out.ok (by omega) (by omega) (by omega) (by omega)
  have hok2 := HI2.out.ok (by omega) (by omega) (by omega) (by omega)
  have hok4 := HI4.out.ok (by omega) (by omega) (by omega) (by omega)
  have hte1 := HI1.out.terms (by omega) (by omega) (by omega) (by omega)
  have hte2 := HI2.out.terms (by omega) (by omega) (by omega) (by omega)
  have hte4 := HI4.out.terms (by omega) (by omega) (by omega) (by omega)
  have hadd := Add_one (.slice ad1 n1 cap1) (.slice ad2 n2 cap2) t1 t2 ea _ hE4 HX4.out.list HY4.out.list hok1 hok2 (fun e he => (hte1 e he).2) (fun e he => (hte2 e he).2) (by omega)
  have HADD2 := Hid.mk' (fun (W : World) (hE : Errs W ea) (hq : ListAt W (.slice ad4 n4 cap4) t4) (hy : ListAt W (.slice ad2 n2 cap2) t2) => Add_one (.slice ad4 n4 cap4) (.slice ad2 n2 cap2) t4 t2 ea W hE hq hy hok4 hok2 (fun e he => (hte4 e he).2) (fun e he => (hte2 e he).2) (by omega))
  have x0 := HX4.out.c0
  have x1 := HX4.out.c1
  have y0 := HY4.out.c0
  have y1 := HY4.out.c1
  clear hl4 hi4 hb4 HB3 HX3 HY3 HZ3 hE4 hok1 hok2 hok4 hte1 hte2 hte4 hk1 hj1 hk2 hj2 hk4 hj4
  go_wp2_with fail
  refine hadd.mono ?_
  clear hadd x0 x1 y0 y1
  rintro e w5 ⟨v5, t5, rfl, hl5, hr5, hn5, hv5, hln5, hb5⟩
  obtain ⟨ad5, n5, cap5, rfl⟩ := listAt_slice hl5
  have HB5 := Hid.mk' (below_chain (below_chain HB4.out (alloc_below _ _)) hb5)
  have HX5 := Hid.mk' ((HX4.out.later hb5).more (.cells #[.int .i64 1, .slice ad5 n5 cap5] 25))
  have HY5 := Hid.mk' ((HY4.out.later hb5).more (.cells #[.int .i64 1, .slice ad5 n5 cap5] 25))
  have HZ5 := Hid.mk' ((HZ4.out.later hb5).more (.cells #[.int .i64 1, .slice ad5 n5 cap5] 25))
  have HQ5 := Hid.mk' ((HQ4.out.later hb5).more (.cells #[.int .i64 1, .slice ad5 n5 cap5] 25))
  have HS5 := Hid.mk' (LB.new hl5)
  have hz5 := hb5.size
  simp at hz5
  have h53 : t5 = t3 := rising_ext hr5 HI3.out.rise hn5 HI3.out.nz (fun x => by rw [hv5, HI1.out.val, HI2.out.val, HI3.out.val, multI_mul x ha hb, multI_one]; omega)
  have H53 := Hid.mk' h53
  have hadd := HADD2.out _ (HE0.out.below (below_chain HB5.out (alloc_below w5 (.cells #[.int .i64 1, .slice ad5 n5 cap5] 25)))) HQ5.out.list HY5.out.list
  have q0 := HQ5.out.c0
  have q1 := HQ5.out.c1
  have y0 := HY5.out.c0
  have y1 := HY5.out.c1
  clear hl5 hr5 hn5 hv5 hb5 h53 HADD2 HB4 HX4 HY4 HZ4 HQ4
  go_wp2_with fail
  refine hadd.mono ?_
  clear hadd q0 q1 y0 y1
  rintro e w6 ⟨v6, t6, rfl, hl6, hr6, hn6, hv6, hln6, hb6⟩
  obtain ⟨ad6, n6, cap6, rfl⟩ := listAt_slice hl6
  have HB6 := Hid.mk' (below_chain (below_chain HB5.out (alloc_below _ _)) hb6)
  have HX6 := Hid.mk' ((HX5.out.later hb6).more (.cells #[.int .i64 1, .slice ad6 n6 cap6] 25))
  have HZ6 := Hid.mk' ((HZ5.out.later hb6).more (.cells #[.int .i64 1, .slice ad6 n6 cap6] 25))
  have HQ6 := Hid.mk' ((HQ5.out.later hb6).more (.cells #[.int .i64 1, .slice ad6 n6 cap6] 25))
  have HS6 := Hid.mk' ((HS5.out.later hb6).more (.cells #[.int .i64 1, .slice ad6 n6 cap6] 25))
  have HD6 := Hid.mk' (LB.new hl6)
  have hz6 := hb6.size
  simp at hz6
  have h61 : t6 = t1 := rising_ext hr6 HI1.out.rise hn6 HI1.out.nz (fun x => by rw [hv6, HI4.out.val, HI2.out.val, HI1.out.val, multI_one]; omega)
  have H61 := Hid.mk' h61
  have q0 := HQ6.out.c0
  have q1 := HQ6.out.c1
  obtain ⟨z, hz⟩ : ∃ z : Int, (a < b → z = -1) ∧ (b < a → z = 1) ∧ (a = b → z = 0) := by
    rcases Nat.lt_trichotomy a b with h1 | h1 | h1
    · exact ⟨-1, fun _ => rfl, fun h => by omega, fun h => by omega⟩
    · exact ⟨0, fun h => by omega, fun h => by omega, fun _ => rfl⟩
    · exact ⟨1, fun h => by omega, fun _ => rfl, fun h => by omega⟩
  have hsg := Sign_of a b (.slice ad4 n4 cap4) t4 ea _ (HE0.out.below (below_chain HB6.out (alloc_below w6 (.cells #[.int .i64 1, .slice ad6 n6 cap6] 25)))) HQ6.out.list HI4.out ha ha3 hb hb3 z hz
  have HZV := Hid.mk' hz
  clear hl6 hr6 hn6 hv6 hb6 h61 HB5 HX5 HY5 HZ5 HQ5 HS5 hz
  go_wp2_with fail
  refine hsg.mono ?_
  clear hsg q0 q1
  rintro e w7 ⟨rfl, hb7⟩
  have HB7 := Hid.mk' (below_chain (below_chain HB6.out (alloc_below _ _)) hb7)
  have HX7 := Hid.mk' (HX6.out.later hb7)
  have HZ7 := Hid.mk' (HZ6.out.later hb7)
  have HS7 := Hid.mk' (HS6.out.later hb7)
  have HD7 := Hid.mk' (HD6.out.later hb7)
  have s0 := HS7.out.c0
  have s1 := HS7.out.c1
  have y0 := HZ7.out.c0
  have y1 := HZ7.out.c1
  have hsm := SameLog_own 1 (.slice ad5 n5 cap5) (.slice ad3 n3 cap3) t3.length (pOf t3) (cOf t3) w7 (by have := HS7.out.list; rw [H53.out] at this; exact this) HZ7.out.list (by have := H53.out; rw [← this]; omega)
  clear hb7 HB6 HX6 HZ6 HQ6 HS6 HD6
  go_wp2_with fail
  refine hsm.mono ?_
  clear hsm s0 s1 y0 y1
  rintro e w8 ⟨rfl, hb8⟩
  have HB8 := Hid.mk' (below_chain HB7.out hb8)
  have HX8 := Hid.mk' (HX7.out.later hb8)
  have HD8 := Hid.mk' (HD7.out.later hb8)
  have s0 := HD8.out.c0
  have s1 := HD8.out.c1
  have y0 := HX8.out.c0
  have y1 := HX8.out.c1
  have hsm := SameLog_own 1 (.slice ad6 n6 cap6) (.slice ad1 n1 cap1) t1.length (pOf t1) (cOf t1) w8 (by have := HD8.out.list; rw [H61.out] at this; exact this) HX8.out.list (by omega)
  clear hb8 HB7 HX7 HZ7 HS7 HD7
  go_wp2_with fail
  refine hsm.mono ?_
  clear hsm s0 s1 y0 y1
  rintro e w9 ⟨rfl, hb9⟩
  have HB9 := Hid.mk' (below_chain HB8.out hb9)
  clear hb9
  rcases Nat.lt_trichotomy a b with hlt | heq | hgt
  · have hzz : z = -1 := HZV.out.1 hlt
    subst hzz
    have hI : (a : Int) < (b : Int) := by omega
    go_wp2_with fail
    go_ret
    exact ⟨ret_bool (by simp <;> omega), HB9.out⟩
  · have hzz : z = 0 := HZV.out.2.2 heq
    subst hzz
    have hI : (a : Int) = (b : Int) := by omega
    go_wp2_with fail
    go_ret
    exact ⟨ret_bool (by simp <;> omega), HB9.out⟩
  · have hzz : z = 1 := HZV.out.2.1 hgt
    subst hzz
    have hI : (b : Int) < (a : Int) := by omega
    go_wp2_with fail
    go_ret
    exact ⟨ret_bool (by simp <;> omega), HB9.out⟩

set_option maxRecDepth 100000 in
set_option maxHeartbeats 2000000 in
theorem LogsProducts_out (a b : Int) (w : World) (h : a < 1 ∨ b < 1 ∨ 1000 < a ∨ 1000 < b) :
    Calls Tryd.prog 3 #[.int .i64 a, .int .i64 b] w fun e w' => e = .returned (.bool true) ∧ Below w.heap.size w w' := by
  have hE := eighth_any w
  rcases (show a < 1 ∨ (1 ≤ a ∧ b < 1) ∨ (1 ≤ a ∧ 1 ≤ b ∧ 1000 < a) ∨ (1 ≤ a ∧ 1 ≤ b ∧ a ≤ 1000 ∧ 1000 < b) by omega) with h1 | ⟨h1, h2⟩ | ⟨h1, h2, h3⟩ | ⟨h1, h2, h3, h4⟩
  all_goals
    clear h
    go_enter Tryd.func3, Tryd.ntmps3
    go_wp2_with fail
    refine hE.mono ?_
    clear hE
    rintro e w0 ⟨rfl, hb0⟩
    go_wp2_with fail
    go_ret
    exact ⟨rfl, hb0⟩
end Go.Proofs.YtiecbconcdncmabDoor
