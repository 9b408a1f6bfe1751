/- The law ArithInterval. -/
import Derived.Test.YtjmjedpeibnnnaaDoorIvD
import Derived.Test.YtjmjedpeibnnnaaDoorRToldN
import Derived.Test.YtjmjedpeibnnnaaDoorQuarter
import Derived.Test.YtjmjedpeibnnnaaDoorMsgD
import Derived.Test.YtjmjedpeibnnnaaDoorCopy
namespace Go.Proofs.YtjmjedpeibnnnaaDoor
open Go.RowKit

theorem ints_full (v : Value) (n : Nat) (z : Nat → Int) (w : World) (h : NumsAt w v n z) (hn : n ≤ 100000) :
    Calls Tryd.prog 13 #[v] w fun e w' => ∃ v', e = .returned v' ∧ NumsAt w' v' n z ∧ (0 < n → ∃ b o cap, v' = .slice (some ⟨b, o, none⟩) n cap ∧ n ≤ cap ∧ RowAt w' b o n z) ∧ Below w.heap.size w w' := by
  refine (ints_row v n z w h hn).mono ?_
  rintro e w' ⟨v', rfl, h1, h2⟩
  refine ⟨v', rfl, numsAt_own h1, fun h0 => ?_, h2⟩
  rcases h1.2 with ⟨hv, h3⟩ | ⟨g, cap, cur, hv, _, _, hc, _⟩
  · omega
  · subst hv
    exact ⟨g, 0, cap, rfl, hc, rowAt_of_row h1⟩
def briefB (n m : Nat) : Bool := decide (n ≤ 100) && (decide (m ≤ 24) || (decide (200 < m) && decide (m ≤ 1000)))
set_option maxRecDepth 100000 in
theorem brief_any (ad ad' : Option Addr) (n cap m cap' : Nat) (w : World) (_ : n ≤ 9223372036854775807) (_ : m ≤ 9223372036854775807) :
    Calls Tryd.prog 9 #[.slice ad n cap, .slice ad' m cap'] w fun e w' => e = .returned (.bool (briefB n m)) ∧ w' = w := by
  by_cases h1 : n ≤ 100
  · have h1I : (n : Int) ≤ 100 := by omega
    by_cases h2 : m ≤ 24
    · have h2I : (m : Int) ≤ 24 := by omega
      have HB : Hid (briefB n m = true) := by show _ = _; unfold briefB; rw [decide_eq_true h1, decide_eq_true h2]; rfl
      go_enter Tryd.func9, Tryd.ntmps9
      go_wp2_with fail
      go_ret
      exact ⟨by rw [HB.out]; rfl, rfl⟩
    · have h2I : ¬ (m : Int) ≤ 24 := by omega
      by_cases h3 : 200 < m
      · have h3I : (200 : Int) < (m : Int) := by omega
        by_cases h4 : m ≤ 1000
        · have h4I : (m : Int) ≤ 1000 := by omega
          have HB : Hid (briefB n m = true) := by show _ = _; unfold briefB; rw [decide_eq_true h1, decide_eq_true h3, decide_eq_true h4]; simp
          go_enter Tryd.func9, Tryd.ntmps9
          go_wp2_with fail
          go_ret
          exact ⟨by rw [HB.out]; rfl, rfl⟩
        · have h4I : ¬ (m : Int) ≤ 1000 := by omega
          have HB : Hid (briefB n m = false) := by show _ = _; unfold briefB; rw [decide_eq_true h1, decide_eq_false h2, decide_eq_false h4]; simp
          go_enter Tryd.func9, Tryd.ntmps9
          go_wp2_with fail
          go_ret
          exact ⟨by rw [HB.out]; rfl, rfl⟩
      · have h3I : ¬ (200 : Int) < (m : Int) := by omega
        have HB : Hid (briefB n m = false) := by show _ = _; unfold briefB; rw [decide_eq_true h1, decide_eq_false h2, decide_eq_false h3]; simp
        go_enter Tryd.func9, Tryd.ntmps9
        go_wp2_with fail
        go_ret
        exact ⟨by rw [HB.out]; rfl, rfl⟩
  · have h1I : ¬ (n : Int) ≤ 100 := by omega
    have HB : Hid (briefB n m = false) := by show _ = _; unfold briefB; rw [decide_eq_false h1]; rfl
    go_enter Tryd.func9, Tryd.ntmps9
    go_wp2_with fail
    go_ret
    exact ⟨by rw [HB.out]; rfl, rfl⟩
theorem briefB_true {n m : Nat} (h : briefB n m = true) : n ≤ 100 ∧ (m ≤ 24 ∨ 200 < m ∧ m ≤ 1000) := by
  unfold briefB at h
  simpa using h

/-- Two numbers in a block. -/
structure PairAt (w : World) (b : Nat) (x y : Int) : Prop where
  c0 : w.cell? ⟨b, 0, none⟩ = some (.int .i64 x)
  c1 : w.cell? ⟨b, 1, none⟩ = some (.int .i64 y)
  f0 : w.frozen? ⟨b, 0, none⟩ = false
  f1 : w.frozen? ⟨b, 1, none⟩ = false
theorem PairAt.later {w w' : World} {b : Nat} {x y : Int} (h : PairAt w b x y) (hb : Below w.heap.size w w') : PairAt w' b x y :=
  ⟨by rw [hb.cell (cell_lt h.c0)]; exact h.c0, by rw [hb.cell (cell_lt h.c1)]; exact h.c1, by rw [hb.frozen (show b < w.heap.size from cell_lt h.c0)]; exact h.f0, by rw [hb.frozen (show b < w.heap.size from cell_lt h.c0)]; exact h.f1⟩
theorem PairAt.fresh (w : World) (x y : Int) (t : TypeId) : PairAt (w.alloc (.cells #[.int .i64 x, .int .i64 y] t)) w.heap.size x y := ⟨by simp, by simp, by simp, by simp⟩
theorem PairAt.freshAt (w : World) (x y : Int) (t : TypeId) {b : Nat} (hb : b = w.heap.size) : PairAt (w.alloc (.cells #[.int .i64 x, .int .i64 y] t)) b x y := by subst hb; exact PairAt.fresh w x y t
theorem PairAt.put {w : World} {b : Nat} {x y : Int} (h : PairAt w b x y) (x' y' : Int) : PairAt (put2 w b (.int .i64 x') (.int .i64 y')) b x' y' := by
  have hc := put2_cell (.int .i64 x') (.int .i64 y') h.c0 h.c1
  exact ⟨by rw [hc, if_neg (by simp), if_pos rfl], by rw [hc, if_pos rfl], by unfold put2; rw [World.frozen?_setCell, World.frozen?_setCell]; exact h.f0, by unfold put2; rw [World.frozen?_setCell, World.frozen?_setCell]; exact h.f1⟩
theorem PairAt.aside {w : World} {b b2 : Nat} {x y x2 y2 : Int} (h : PairAt w b x y) (h2 : PairAt w b2 x2 y2) (hne : b ≠ b2) (v v' : Value) : PairAt (put2 w b2 v v') b x y := by
  have hc := put2_cell v v' h2.c0 h2.c1
  have e : ∀ j k, (⟨b, j, none⟩ : Addr) ≠ ⟨b2, k, none⟩ := fun j k e => hne (congrArg Addr.block e)
  exact ⟨by rw [hc, if_neg (e _ _), if_neg (e _ _)]; exact h.c0, by rw [hc, if_neg (e _ _), if_neg (e _ _)]; exact h.c1, by unfold put2; rw [World.frozen?_setCell, World.frozen?_setCell]; exact h.f0, by unfold put2; rw [World.frozen?_setCell, World.frozen?_setCell]; exact h.f1⟩
/-- Lowest terms of numbers from 0 on. -/
theorem lowN_nat (M x : Nat) : lowN M (x : Int) = ((x / Nat.gcd x M : Nat) : Int) := by
  unfold lowN lowG
  rw [Int.natAbs_natCast]
  exact (Int.ofNat_tdiv x _).symm
theorem lowD_nat (M x : Nat) : lowD M (x : Int) = M / Nat.gcd x M := by
  unfold lowD lowG
  rw [Int.natAbs_natCast]
theorem msgE_none {z : Nat → Int} {n m : Nat} {l : Nat → Int} (h : (msgE z n m l).1 = 0) : msgE z n m l = (0, -1) := by
  unfold msgE at h ⊢
  split at h
  · simp at h
  · split at h
    · simp at h
    · split at h
      · simp at h
      · rename_i h1 h2 h3
        rw [if_neg h1, if_neg h2, if_neg h3]
theorem RTold_low (v : Value) (N D : Nat) (w : World) (h : RatioAt w v (lowN D (N : Int)) (lowD D (N : Int))) (hD : 0 < D) (hN : N ≤ D) (hR : D < 1000000 ^ 20) :
    Calls Tryd.prog 15 #[v] w fun e w' => e = .returned (if canTell N D = true then .tuple #[fracV N D, .bool true] else .tuple #[zeroF, .bool false]) ∧ Below w.heap.size w w' := by
  have hr := low_room hD hN hR
  rw [lowN_nat, lowD_nat, Int.natAbs_natCast] at hr
  rw [lowN_nat, lowD_nat] at h
  by_cases hc : canTell N D = true
  · rw [if_pos hc]
    have h2 := of_decide_eq_true hc
    exact RTold_ok v _ _ w h h2.1 h2.2
  · rw [if_neg hc]
    have h2 := of_decide_eq_false (by simpa using hc : canTell N D = false)
    exact RTold_not v _ _ w h hr.1 hr.2 (by omega)
theorem four_boxes (w : World) (x1 y1 x2 y2 x3 y3 x4 y4 : Int) {W : World} (hW : (((w.alloc (.cells #[.int .i64 x1, .int .i64 y1] 30)).alloc (.cells #[.int .i64 x2, .int .i64 y2] 30)).alloc (.cells #[.int .i64 x3, .int .i64 y3] 30)).alloc (.cells #[.int .i64 x4, .int .i64 y4] 30) = W) :
    Below w.heap.size w W ∧ PairAt W w.heap.size x1 y1 ∧ PairAt W (w.heap.size + 1) x2 y2 ∧ PairAt W (w.heap.size + 1 + 1) x3 y3 ∧ PairAt W (w.heap.size + 1 + 1 + 1) x4 y4 := by
  have b : ∀ (V : World) (o : Obj), Below V.heap.size V (V.alloc o) := fun V o => (Below.refl _ _).alloc (Nat.le_refl _) _
  subst hW
  exact ⟨below_chain (below_chain (below_chain (b _ _) (b _ _)) (b _ _)) (b _ _), (((PairAt.fresh _ _ _ _).later (b _ _)).later (b _ _)).later (b _ _), ((PairAt.freshAt _ _ _ _ (by simp)).later (b _ _)).later (b _ _), (PairAt.freshAt _ _ _ _ (by simp)).later (b _ _), PairAt.freshAt _ _ _ _ (by simp)⟩
theorem two_ratios (w : World) {t1 t2 : Bool} {a1 a1' a2 a2' : Option Addr} {l1 c1 l1' c1' l2 c2 l2' c2' : Nat} {n1 n2 : Int} {d1 d2 : Nat} (h1 : RatioAt w (.agg #[.bool t1, .slice a1 l1 c1, .slice a1' l1' c1']) n1 d1) (h2 : RatioAt w (.agg #[.bool t2, .slice a2 l2 c2, .slice a2' l2' c2']) n2 d2) {W : World}
    (hW : (w.alloc (.cells #[.bool t1, .slice a1 l1 c1, .slice a1' l1' c1'] 40)).alloc (.cells #[.bool t2, .slice a2 l2 c2, .slice a2' l2' c2'] 40) = W) :
    Below w.heap.size w W ∧ RBox W w.heap.size t1 a1 l1 c1 a1' l1' c1' n1 d1 ∧ RBox W (w.heap.size + 1) t2 a2 l2 c2 a2' l2' c2' n2 d2 := by
  have b : ∀ (V : World) (o : Obj), Below V.heap.size V (V.alloc o) := fun V o => (Below.refl _ _).alloc (Nat.le_refl _) _
  subst hW
  refine ⟨below_chain (b _ _) (b _ _), (RBox.fresh h1).later (b _ _), ?_⟩
  have h3 := RBox.fresh (h2.later (b w (.cells #[.bool t1, .slice a1 l1 c1, .slice a1' l1' c1'] 40)))
  rw [show (w.alloc (.cells #[.bool t1, .slice a1 l1 c1, .slice a1' l1' c1'] 40)).heap.size = w.heap.size + 1 by simp] at h3
  exact h3

set_option maxRecDepth 100000 in
set_option maxHeartbeats 8000000 in
theorem ArithInterval_all (a : Nat → Addr) (ad : Option Addr) (n cap : Nat) (z : Nat → Int) (ad' : Option Addr) (m cap' : Nat) (l : Nat → Int) (w : World) (hE : Errs w a) (h : NumsAt w (.slice ad n cap) n z) (hn : n ≤ maxLen) (hcap : n ≤ cap) (h' : NumsAt w (.slice ad' m cap') m l) (hm : m ≤ maxLen) :
    Calls Tryd.prog 3 #[.slice ad n cap, .slice ad' m cap'] w fun e w' => e = .returned (.bool true) ∧ Below w.heap.size w w' := by
  have hQ := quarter_any a w hE
  unfold maxLen at hn hm
  have HBR := Hid.mk' (fun (W : World) => brief_any ad ad' n cap m cap' W hn hm)
  cases hb : briefB n m with
  | false =>
    rw [hb] at HBR
    clear hb hE h h'
    go_enter Tryd.func3, Tryd.ntmps3
    go_wp2_with fail
    refine hQ.mono ?_
    clear hQ
    rintro e w1 ⟨rfl, hb1⟩
    have HB1 := Hid.mk' hb1
    clear hb1
    go_wp2_with fail
    refine (HBR.out _).mono ?_
    rintro e w2 ⟨rfl, hw2⟩
    rw [hw2]
    clear hw2 w2
    go_wp2_with fail
    go_ret
    exact ⟨rfl, HB1.out⟩
  | true =>
    rw [hb] at HBR
    obtain ⟨hn1, hm1⟩ := briefB_true hb
    have hm2 : m ≤ 1000 := by omega
    clear hb
    have HWE := Hid.mk' (fun (W : World) (hb : Below w.heap.size w W) => WeightsError_any _ n z W (h.later hb) (by omega))
    have HMF := Hid.mk' (fun (W : World) (hb : Below w.heap.size w W) => MessageFault_any _ _ n m z l W (h.later hb) (h'.later hb) (by omega) (by omega))
    have HIW := Hid.mk' (fun (W : World) (hb : Below w.heap.size w W) => ints_full _ n z W (h.later hb) (by omega))
    have HIL := Hid.mk' (fun (W : World) (hb : Below w.heap.size w W) => ints_full _ m l W (h'.later hb) (by omega))
    have HFT := Hid.mk' (fun (W : World) (v : Value) (hb : Below w.heap.size w W) (hv : ErrIs a W v (mesE z n m l)) => faulted_is a v (mesE z n m l) W (hE.below hb) hv)
    by_cases hc : (mesE z n m l).1 = 0
    · have HOK := Hid.mk' (mesE_ok hc)
      have hm24 : m ≤ 24 := by have := HOK.out.2.2.2.1; omega
      obtain ⟨S, hS⟩ : ∃ S : Nat, sumN z n = (S : Int) := ⟨(sumN z n).toNat, by have := HOK.out.2.1.pos; omega⟩
      obtain ⟨bw, ow, cw, hvw, hroww⟩ := h.cellAt HOK.out.2.1.posN
      have hcw : cw = cap ∧ ad = some ⟨bw, ow, none⟩ := by simp at hvw; exact ⟨hvw.2.symm, hvw.1⟩
      obtain ⟨rfl, rfl⟩ := hcw
      have HGOOD := Hid.mk' (fun (W : World) (b o c : Nat) (vl : Value) (hb : Below w.heap.size w W) (hr : RowAt W b o n z) (hc' : n ≤ c) (hl : NumsAt W vl m l) => Interval_ok a b o c vl n m S z l W (hE.below hb) hr hc' hl hS hc)
      have HIO := Hid.mk' (fun (W : World) (hb : Below w.heap.size w W) => IntervalOf_any bw ow cw _ n m S z l W (hroww.later hb) hcap (h'.later hb) HOK.out.2.1 (by omega) hm24 hS HOK.out.2.2.2.2.1)
      have HSP : Hid (0 < S ∧ S ≤ 4096) := by have h1 := HOK.out.2.1.pos; have h2 := HOK.out.2.1.le; rw [hS] at h1 h2; exact ⟨by omega, by omega⟩
      have hD0 : 0 < S ^ m := Nat.pow_pos HSP.out.1
      have hDR := pow_small (j := m) HSP.out.2 (by omega)
      have hLE := cut_le HOK.out.2.1 hS HOK.out.2.2.2.2.1 m (Nat.le_refl _)
      have HTD1 := Hid.mk' (fun (W : World) (v : Value) hv => RTold_low v (cutL z l S m) (S ^ m) W hv hD0 (by omega) hDR)
      have HTD2 := Hid.mk' (fun (W : World) (v : Value) hv => RTold_low v (cutW z l m) (S ^ m) W hv hD0 (by omega) hDR)
      have HFN := Hid.mk' (fun (W : World) (v : Value) (c : Nat × Int) (hb : Below w.heap.size w W) (hv : ErrIs a W v c) => faulted_is a v c W (hE.below hb) hv)
      generalize cutL z l S m = NL at *
      generalize cutW z l m = NW at *
      generalize S ^ m = ND at *
      have HW0 : Hid (weightsErr z n = 0) := HOK.out.1
      have HME : Hid (msgE z n m l = (0, -1)) := by
        have e : mesE z n m l = msgE z n m l := by unfold mesE; rw [if_pos HW0.out]
        rw [e] at hc
        exact msgE_none hc
      clear hE h h' hroww hDR hLE hD0
      go_enter Tryd.func3, Tryd.ntmps3
      go_wp2_with fail
      refine hQ.mono ?_
      clear hQ
      rintro e w1 ⟨rfl, hb1⟩
      have HB := Hid.mk' hb1
      clear hb1
      go_wp2_with fail
      refine (HBR.out _).mono ?_
      rintro e w2 ⟨rfl, hw2⟩
      rw [hw2]
      clear hw2 w2
      go_wp2_with fail
      refine (HWE.out _ HB.out).mono ?_
      rintro e w3 ⟨rfl, hw3⟩
      rw [hw3, HW0.out]
      clear hw3 w3
      have HF := Hid.mk' (PairAt.fresh w1 0 (-1) 27)
      have HB2 := Hid.mk' (below_chain HB.out ((Below.refl _ _).alloc (Nat.le_refl _) (.cells #[.int .i64 0, .int .i64 (-1)] 27)))
      have HBL : Hid (w.heap.size ≤ w1.heap.size) := HB.out.size
      generalize hWF : w1.alloc (.cells #[.int .i64 0, .int .i64 (-1)] 27) = WF at *
      have y0 := HF.out.c0
      go_wp2_with fail
      clear hWF y0
      generalize w1.heap.size = BF at *
      refine (HMF.out _ HB2.out).mono ?_
      rintro e w4 ⟨rfl, hb4⟩
      rw [HME.out]
      have hF4 := HF.out.later hb4
      have HF := Hid.mk' (hF4.put 0 (-1))
      have HB : Hid (Below w.heap.size w (put2 w4 BF (.int .i64 0) (.int .i64 (-1)))) := by unfold put2; exact ((below_chain HB2.out hb4).setCell HBL.out _).setCell HBL.out _
      have z0 := hF4.c0
      have z1 := hF4.c1
      have z2 := hF4.f0
      have z3 := hF4.f1
      clear hb4 hF4 HB2
      unfold put2 at HF HB
      generalize hWG : (w4.setCell ⟨BF, 0, none⟩ (.int .i64 0)).setCell ⟨BF, 1, none⟩ (.int .i64 (-1)) = WG at *
      go_wp2_with fail
      clear hWG z0 z1 z2 z3
      have hne : 0 < n := HOK.out.2.1.posN
      go_wp2_with fail
      refine (HIW.out _ HB.out).mono ?_
      rintro e w5 ⟨v5, rfl, hv5, hr5, hb5⟩
      obtain ⟨b5, o5, cap5, rfl, hc5, hrow5⟩ := hr5 hne
      have HF := Hid.mk' (HF.out.later hb5)
      have HB := Hid.mk' (below_chain HB.out hb5)
      have HV5 := Hid.mk' hrow5
      clear hv5 hr5 hb5 hrow5
      go_wp2_with fail
      refine (HIL.out _ HB.out).mono ?_
      rintro e w6 ⟨v6, rfl, hv6, _, hb6⟩
      have HF := Hid.mk' (HF.out.later hb6)
      have HB := Hid.mk' (below_chain HB.out hb6)
      have HV5 := Hid.mk' (HV5.out.later hb6)
      obtain ⟨ad6, cap6, rfl⟩ := hv6.form
      have HV6 := Hid.mk' hv6
      clear hv6 hb6
      go_wp2_with fail
      refine (HGOOD.out _ _ _ _ _ HB.out HV5.out hc5 HV6.out).mono ?_
      rintro e w7 ⟨rfl, hb7⟩
      have HF := Hid.mk' (HF.out.later hb7)
      have HB := Hid.mk' (below_chain HB.out hb7)
      have HBF : Hid (BF < w7.heap.size) := cell_lt HF.out.c0
      have HB7 : Hid (w.heap.size ≤ w7.heap.size) := HB.out.size
      clear hb7 HV5 HV6
      cases htl : (canTell NL ND && canTell NW ND) with
      | true =>
        obtain ⟨h1t, h2t⟩ : canTell NL ND = true ∧ canTell NW ND = true := by simpa using htl
        have HIV : Hid (ivV a NL NW ND = .tuple #[fracV NL ND, fracV NW ND, .nilIface]) := by show _ = _; unfold ivV; rw [if_pos ⟨h1t, h2t⟩]
        rw [HIV.out]
        rw [if_pos h1t] at HTD1
        rw [if_pos h2t] at HTD2
        unfold fracV at HTD1 HTD2 ⊢
        generalize ((NL / Nat.gcd NL ND : Nat) : Int) = x1 at *
        generalize ((ND / Nat.gcd NL ND : Nat) : Int) = y1 at *
        generalize ((NW / Nat.gcd NW ND : Nat) : Int) = x2 at *
        generalize ((ND / Nat.gcd NW ND : Nat) : Int) = y2 at *
        clear htl h1t h2t
        obtain ⟨W8, hW8⟩ : ∃ W8, (((w7.alloc (.cells #[.int .i64 x1, .int .i64 y1] 30)).alloc (.cells #[.int .i64 x2, .int .i64 y2] 30)).alloc (.cells #[.int .i64 0, .int .i64 0] 30)).alloc (.cells #[.int .i64 0, .int .i64 0] 30) = W8 := ⟨_, rfl⟩
        obtain ⟨hb8, P1, P2, P3, P4⟩ := four_boxes w7 x1 y1 x2 y2 0 0 0 0 hW8
        have HF := Hid.mk' (HF.out.later hb8)
        have HB := Hid.mk' (below_chain HB.out hb8)
        have HP1 := Hid.mk' P1
        have HP2 := Hid.mk' P2
        have HP3 := Hid.mk' P3
        have HP4 := Hid.mk' P4
        have y0 := HF.out.c0
        have HSZ8 : Hid (w7.heap.size + 1 + 1 + 1 < W8.heap.size) := by show _ < _; rw [← hW8]; simp
        have HW8 := Hid.mk' hW8
        clear hb8 P1 P2 P3 P4 hW8
        go_upto_region 10 with fail
        rw [HW8.out]
        go_wp2_with fail
        clear y0 HW8
        refine (HIO.out _ HB.out).mono ?_
        rintro e w9 ⟨u1, u2, rfl, hu1, hu2, hb9⟩
        obtain ⟨t1, a1, l1, c1, a1', l1', c1', rfl⟩ := hu1.sl
        obtain ⟨t2, a2, l2, c2, a2', l2', c2', rfl⟩ := hu2.sl
        generalize hB7 : w7.heap.size = B7 at *
        clear hB7
        have HF := Hid.mk' (HF.out.later hb9)
        have HP1 := Hid.mk' (HP1.out.later hb9)
        have HP2 := Hid.mk' (HP2.out.later hb9)
        have HP3 := Hid.mk' (HP3.out.later hb9)
        have HP4 := Hid.mk' (HP4.out.later hb9)
        have HB := Hid.mk' (below_chain HB.out hb9)
        have HU1 := Hid.mk' hu1
        have HU2 := Hid.mk' hu2
        have HSZ9 : Hid (B7 + 1 + 1 + 1 < w9.heap.size) := Nat.lt_of_lt_of_le HSZ8.out hb9.size
        clear hu1 hu2 hb9
        obtain ⟨W10, hW10⟩ : ∃ W10, (w9.alloc (.cells #[.bool t1, .slice a1 l1 c1, .slice a1' l1' c1'] 40)).alloc (.cells #[.bool t2, .slice a2 l2 c2, .slice a2' l2' c2'] 40) = W10 := ⟨_, rfl⟩
        obtain ⟨hb10, R1, R2⟩ := two_ratios w9 HU1.out HU2.out hW10
        have HF := Hid.mk' (HF.out.later hb10)
        have HP1 := Hid.mk' (HP1.out.later hb10)
        have HP2 := Hid.mk' (HP2.out.later hb10)
        have HP3 := Hid.mk' (HP3.out.later hb10)
        have HP4 := Hid.mk' (HP4.out.later hb10)
        have HB := Hid.mk' (below_chain HB.out hb10)
        have r0 := R1.c0
        have r1 := R1.c1
        have r2 := R1.c2
        have HR1 := Hid.mk' R1
        have HR2 := Hid.mk' R2
        have HSZ10 : Hid (B7 + 1 + 1 + 1 < W10.heap.size) := Nat.lt_of_lt_of_le HSZ9.out hb10.size
        clear hb10 R1 R2 HU1 HU2
        go_wp2_with fail
        clear hW10 r0 r1 r2
        refine (HTD1.out _ _ HR1.out.rat).mono ?_
        rintro e w11 ⟨rfl, hb11⟩
        have HF := Hid.mk' (HF.out.later hb11)
        have HP1 := Hid.mk' (HP1.out.later hb11)
        have HP2 := Hid.mk' (HP2.out.later hb11)
        have HP3 := Hid.mk' (HP3.out.later hb11)
        have HP4 := Hid.mk' (HP4.out.later hb11)
        have HB := Hid.mk' (below_chain HB.out hb11)
        have HR2 := Hid.mk' (HR2.out.later hb11)
        have HSZ11 : Hid (B7 + 1 + 1 + 1 < w11.heap.size) := Nat.lt_of_lt_of_le HSZ10.out hb11.size
        clear hb11
        obtain ⟨W12, hW12⟩ : ∃ W12, w11.alloc (.cells #[.int .i64 x1, .int .i64 y1] 30) = W12 := ⟨_, rfl⟩
        have hb12 : Below w11.heap.size w11 W12 := by rw [← hW12]; exact (Below.refl _ _).alloc (Nat.le_refl _) _
        have HQ1 : Hid (PairAt W12 w11.heap.size x1 y1) := by rw [← hW12]; exact PairAt.fresh _ _ _ _
        have HF := Hid.mk' (HF.out.later hb12)
        have HP1 := Hid.mk' (HP1.out.later hb12)
        have HP2 := Hid.mk' (HP2.out.later hb12)
        have HP3 := Hid.mk' (HP3.out.later hb12)
        have HP4 := Hid.mk' (HP4.out.later hb12)
        have HB := Hid.mk' (below_chain HB.out hb12)
        have HR2 := Hid.mk' (HR2.out.later hb12)
        have r0 := HR2.out.c0
        have r1 := HR2.out.c1
        have r2 := HR2.out.c2
        clear hb12
        go_wp2_with fail
        clear hW12 r0 r1 r2
        generalize hB11 : w11.heap.size = B11 at *
        clear hB11
        refine (HTD2.out _ _ HR2.out.rat).mono ?_
        rintro e w13 ⟨rfl, hb13⟩
        have HF := Hid.mk' (HF.out.later hb13)
        have HP1 := Hid.mk' (HP1.out.later hb13)
        have HP2 := Hid.mk' (HP2.out.later hb13)
        have HP3 := Hid.mk' (HP3.out.later hb13)
        have HP4 := Hid.mk' (HP4.out.later hb13)
        have HB := Hid.mk' (below_chain HB.out hb13)
        have HQ1 := Hid.mk' (HQ1.out.later hb13)
        have HSZ13 : Hid (B11 < w13.heap.size) := cell_lt HQ1.out.c0
        clear hb13
        obtain ⟨W14, hW14⟩ : ∃ W14, w13.alloc (.cells #[.int .i64 x2, .int .i64 y2] 30) = W14 := ⟨_, rfl⟩
        have hb14 : Below w13.heap.size w13 W14 := by rw [← hW14]; exact (Below.refl _ _).alloc (Nat.le_refl _) _
        have hQ2 : PairAt W14 w13.heap.size x2 y2 := by rw [← hW14]; exact PairAt.fresh _ _ _ _
        have hQ1 := HQ1.out.later hb14
        have hF := HF.out.later hb14
        have hP1 := HP1.out.later hb14
        have hP2 := HP2.out.later hb14
        have hP3 := HP3.out.later hb14
        have hP4 := HP4.out.later hb14
        have HB := Hid.mk' (below_chain HB.out hb14)
        have hs9 := HSZ11.out
        have hs13 := HSZ13.out
        have hs8 := HBF.out
        have hp3' := hP3.put x1 y1
        have hp4' := hP4.aside hP3 (by omega) (.int .i64 x1) (.int .i64 y1)
        have hp1' := hP1.aside hP3 (by omega) (.int .i64 x1) (.int .i64 y1)
        have hp2' := hP2.aside hP3 (by omega) (.int .i64 x1) (.int .i64 y1)
        have hF' := hF.aside hP3 (by omega) (.int .i64 x1) (.int .i64 y1)
        have hQ2' := hQ2.aside hP3 (by omega) (.int .i64 x1) (.int .i64 y1)
        have HZ4 := Hid.mk' (hp4'.put x2 y2)
        have HZ3 := Hid.mk' (hp3'.aside hp4' (by omega) (.int .i64 x2) (.int .i64 y2))
        have HZ1 := Hid.mk' (hp1'.aside hp4' (by omega) (.int .i64 x2) (.int .i64 y2))
        have HZ2 := Hid.mk' (hp2'.aside hp4' (by omega) (.int .i64 x2) (.int .i64 y2))
        have hZF := hF'.aside hp4' (by omega) (.int .i64 x2) (.int .i64 y2)
        have HBZ : Hid (Below w.heap.size w (put2 (put2 W14 (B7 + 1 + 1) (.int .i64 x1) (.int .i64 y1)) (B7 + 1 + 1 + 1) (.int .i64 x2) (.int .i64 y2))) := by
          have h0 := HB7.out
          unfold put2
          exact (((HB.out.setCell (by show w.heap.size ≤ B7 + 1 + 1; omega) _).setCell (by show w.heap.size ≤ B7 + 1 + 1; omega) _).setCell (by show w.heap.size ≤ B7 + 1 + 1 + 1; omega) _).setCell (by show w.heap.size ≤ B7 + 1 + 1 + 1; omega) _
        have e1 := hQ1.c0
        have e2 := hQ1.c1
        have e3 := hP3.c0
        have e4 := hP3.c1
        have e5 := hP3.f0
        have e6 := hP3.f1
        have e7 := hQ2'.c0
        have e8 := hQ2'.c1
        have e9 := hp4'.c0
        have e10 := hp4'.c1
        have e11 := hp4'.f0
        have e12 := hp4'.f1
        have e13 := hZF.c0
        have e14 := hZF.c1
        clear hs9 hs13 hs8 hp3' hp4' hp1' hp2' hF' hQ2' hZF hQ1 hQ2 hF hP1 hP2 hP3 hP4 hb14
        unfold put2 at e7 e8 e9 e10 e11 e12 e13 e14 HZ1 HZ2 HZ3 HZ4 HBZ
        go_wp2_with fail
        refine (HFN.out _ _ (0, -1) HBZ.out (Or.inl ⟨rfl, rfl, by decide⟩)).mono ?_
        rintro e w15 ⟨rfl, hb15⟩
        have q1 := (HZ1.out.later hb15).c0
        have q2 := (HZ1.out.later hb15).c1
        have q3 := (HZ2.out.later hb15).c0
        have q4 := (HZ2.out.later hb15).c1
        have q5 := (HZ3.out.later hb15).c0
        have q6 := (HZ3.out.later hb15).c1
        have q7 := (HZ4.out.later hb15).c0
        have q8 := (HZ4.out.later hb15).c1
        have HBY := Hid.mk' (below_chain HBZ.out hb15)
        clear hb15
        go_wp2_with fail
        go_ret
        exact ⟨rfl, HBY.out⟩
      | false =>
        have HIV : Hid (ivV a NL NW ND = .tuple #[zeroF, zeroF, errV a 2]) := by show _ = _; unfold ivV; rw [if_neg (by intro hh; rw [hh.1, hh.2] at htl; cases htl)]
        rw [HIV.out, errV_two]
        unfold zeroF
        obtain ⟨x1, y1, b1, hx1⟩ : ∃ x1 y1 b1, (if canTell NL ND = true then Value.tuple #[fracV NL ND, .bool true] else .tuple #[zeroF, .bool false]) = .tuple #[.agg #[.int .i64 x1, .int .i64 y1], .bool b1] ∧ b1 = canTell NL ND := by
          cases canTell NL ND with
          | true => exact ⟨_, _, true, rfl, rfl⟩
          | false => exact ⟨_, _, false, rfl, rfl⟩
        obtain ⟨x2, y2, b2, hx2⟩ : ∃ x2 y2 b2, (if canTell NW ND = true then Value.tuple #[fracV NW ND, .bool true] else .tuple #[zeroF, .bool false]) = .tuple #[.agg #[.int .i64 x2, .int .i64 y2], .bool b2] ∧ b2 = canTell NW ND := by
          cases canTell NW ND with
          | true => exact ⟨_, _, true, rfl, rfl⟩
          | false => exact ⟨_, _, false, rfl, rfl⟩
        rw [hx1.1] at HTD1
        rw [hx2.1] at HTD2
        rw [← hx1.2, ← hx2.2] at htl
        have HTL := Hid.mk' htl
        clear htl hx1 hx2
        obtain ⟨W8, hW8⟩ : ∃ W8, (((w7.alloc (.cells #[.int .i64 0, .int .i64 0] 30)).alloc (.cells #[.int .i64 0, .int .i64 0] 30)).alloc (.cells #[.int .i64 0, .int .i64 0] 30)).alloc (.cells #[.int .i64 0, .int .i64 0] 30) = W8 := ⟨_, rfl⟩
        obtain ⟨hb8, P1, P2, P3, P4⟩ := four_boxes w7 0 0 0 0 0 0 0 0 hW8
        have HF := Hid.mk' (HF.out.later hb8)
        have HB := Hid.mk' (below_chain HB.out hb8)
        have HP1 := Hid.mk' P1
        have HP2 := Hid.mk' P2
        have HP3 := Hid.mk' P3
        have HP4 := Hid.mk' P4
        have y0 := HF.out.c0
        have HSZ8 : Hid (w7.heap.size + 1 + 1 + 1 < W8.heap.size) := by show _ < _; rw [← hW8]; simp
        have HW8 := Hid.mk' hW8
        clear hb8 P1 P2 P3 P4 hW8
        go_upto_region 10 with fail
        rw [HW8.out]
        go_wp2_with fail
        clear y0 HW8
        refine (HIO.out _ HB.out).mono ?_
        rintro e w9 ⟨u1, u2, rfl, hu1, hu2, hb9⟩
        obtain ⟨t1, a1, l1, c1, a1', l1', c1', rfl⟩ := hu1.sl
        obtain ⟨t2, a2, l2, c2, a2', l2', c2', rfl⟩ := hu2.sl
        generalize hB7 : w7.heap.size = B7 at *
        clear hB7
        have HF := Hid.mk' (HF.out.later hb9)
        have HP1 := Hid.mk' (HP1.out.later hb9)
        have HP2 := Hid.mk' (HP2.out.later hb9)
        have HP3 := Hid.mk' (HP3.out.later hb9)
        have HP4 := Hid.mk' (HP4.out.later hb9)
        have HB := Hid.mk' (below_chain HB.out hb9)
        have HU1 := Hid.mk' hu1
        have HU2 := Hid.mk' hu2
        have HSZ9 : Hid (B7 + 1 + 1 + 1 < w9.heap.size) := Nat.lt_of_lt_of_le HSZ8.out hb9.size
        clear hu1 hu2 hb9
        obtain ⟨W10, hW10⟩ : ∃ W10, (w9.alloc (.cells #[.bool t1, .slice a1 l1 c1, .slice a1' l1' c1'] 40)).alloc (.cells #[.bool t2, .slice a2 l2 c2, .slice a2' l2' c2'] 40) = W10 := ⟨_, rfl⟩
        obtain ⟨hb10, R1, R2⟩ := two_ratios w9 HU1.out HU2.out hW10
        have HF := Hid.mk' (HF.out.later hb10)
        have HP1 := Hid.mk' (HP1.out.later hb10)
        have HP2 := Hid.mk' (HP2.out.later hb10)
        have HP3 := Hid.mk' (HP3.out.later hb10)
        have HP4 := Hid.mk' (HP4.out.later hb10)
        have HB := Hid.mk' (below_chain HB.out hb10)
        have r0 := R1.c0
        have r1 := R1.c1
        have r2 := R1.c2
        have HR1 := Hid.mk' R1
        have HR2 := Hid.mk' R2
        have HSZ10 : Hid (B7 + 1 + 1 + 1 < W10.heap.size) := Nat.lt_of_lt_of_le HSZ9.out hb10.size
        clear hb10 R1 R2 HU1 HU2
        go_wp2_with fail
        clear hW10 r0 r1 r2
        refine (HTD1.out _ _ HR1.out.rat).mono ?_
        rintro e w11 ⟨rfl, hb11⟩
        have HF := Hid.mk' (HF.out.later hb11)
        have HP1 := Hid.mk' (HP1.out.later hb11)
        have HP2 := Hid.mk' (HP2.out.later hb11)
        have HP3 := Hid.mk' (HP3.out.later hb11)
        have HP4 := Hid.mk' (HP4.out.later hb11)
        have HB := Hid.mk' (below_chain HB.out hb11)
        have HR2 := Hid.mk' (HR2.out.later hb11)
        have HSZ11 : Hid (B7 + 1 + 1 + 1 < w11.heap.size) := Nat.lt_of_lt_of_le HSZ10.out hb11.size
        clear hb11
        obtain ⟨W12, hW12⟩ : ∃ W12, w11.alloc (.cells #[.int .i64 x1, .int .i64 y1] 30) = W12 := ⟨_, rfl⟩
        have hb12 : Below w11.heap.size w11 W12 := by rw [← hW12]; exact (Below.refl _ _).alloc (Nat.le_refl _) _
        have HQ1 : Hid (PairAt W12 w11.heap.size x1 y1) := by rw [← hW12]; exact PairAt.fresh _ _ _ _
        have HF := Hid.mk' (HF.out.later hb12)
        have HP1 := Hid.mk' (HP1.out.later hb12)
        have HP2 := Hid.mk' (HP2.out.later hb12)
        have HP3 := Hid.mk' (HP3.out.later hb12)
        have HP4 := Hid.mk' (HP4.out.later hb12)
        have HB := Hid.mk' (below_chain HB.out hb12)
        have HR2 := Hid.mk' (HR2.out.later hb12)
        have r0 := HR2.out.c0
        have r1 := HR2.out.c1
        have r2 := HR2.out.c2
        clear hb12
        go_wp2_with fail
        clear hW12 r0 r1 r2
        generalize hB11 : w11.heap.size = B11 at *
        clear hB11
        refine (HTD2.out _ _ HR2.out.rat).mono ?_
        rintro e w13 ⟨rfl, hb13⟩
        have HF := Hid.mk' (HF.out.later hb13)
        have HP1 := Hid.mk' (HP1.out.later hb13)
        have HP2 := Hid.mk' (HP2.out.later hb13)
        have HP3 := Hid.mk' (HP3.out.later hb13)
        have HP4 := Hid.mk' (HP4.out.later hb13)
        have HB := Hid.mk' (below_chain HB.out hb13)
        have HQ1 := Hid.mk' (HQ1.out.later hb13)
        have HSZ13 : Hid (B11 < w13.heap.size) := cell_lt HQ1.out.c0
        clear hb13
        obtain ⟨W14, hW14⟩ : ∃ W14, w13.alloc (.cells #[.int .i64 x2, .int .i64 y2] 30) = W14 := ⟨_, rfl⟩
        have hb14 : Below w13.heap.size w13 W14 := by rw [← hW14]; exact (Below.refl _ _).alloc (Nat.le_refl _) _
        have hQ2 : PairAt W14 w13.heap.size x2 y2 := by rw [← hW14]; exact PairAt.fresh _ _ _ _
        have hQ1 := HQ1.out.later hb14
        have hF := HF.out.later hb14
        have hP1 := HP1.out.later hb14
        have hP2 := HP2.out.later hb14
        have hP3 := HP3.out.later hb14
        have hP4 := HP4.out.later hb14
        have HB := Hid.mk' (below_chain HB.out hb14)
        have hs9 := HSZ11.out
        have hs13 := HSZ13.out
        have hs8 := HBF.out
        have HZF := Hid.mk' (hF.put 2 (-1))
        have HZ1 := Hid.mk' (hP1.aside hF (by omega) (.int .i64 2) (.int .i64 (-1)))
        have HZ2 := Hid.mk' (hP2.aside hF (by omega) (.int .i64 2) (.int .i64 (-1)))
        have HZ3 := Hid.mk' (hP3.aside hF (by omega) (.int .i64 2) (.int .i64 (-1)))
        have HZ4 := Hid.mk' (hP4.aside hF (by omega) (.int .i64 2) (.int .i64 (-1)))
        have HBZ : Hid (Below w.heap.size w (put2 W14 BF (.int .i64 2) (.int .i64 (-1)))) := by
          unfold put2
          exact (HB.out.setCell HBL.out _).setCell HBL.out _
        have e1 := hF.c0
        have e2 := hF.c1
        have e3 := hF.f0
        have e4 := hF.f1
        have e5 := HZF.out.c0
        have e6 := HZF.out.c1
        clear hs9 hs13 hs8 hQ1 hQ2 hF hP1 hP2 hP3 hP4 hb14
        unfold put2 at e5 e6 HZ1 HZ2 HZ3 HZ4 HBZ
        have hbb : b1 = false ∨ b1 = true ∧ b2 = false := by have := HTL.out; cases b1 <;> cases b2 <;> simp_all
        rcases hbb with rfl | ⟨rfl, rfl⟩
        all_goals (
          go_wp2_with fail
          refine (HFN.out _ _ (2, -1) HBZ.out (Or.inl ⟨rfl, rfl, by decide⟩)).mono ?_
          rintro e w15 ⟨rfl, hb15⟩
          have q1 := (HZ1.out.later hb15).c0
          have q2 := (HZ1.out.later hb15).c1
          have q3 := (HZ2.out.later hb15).c0
          have q4 := (HZ2.out.later hb15).c1
          have q5 := (HZ3.out.later hb15).c0
          have q6 := (HZ3.out.later hb15).c1
          have q7 := (HZ4.out.later hb15).c0
          have q8 := (HZ4.out.later hb15).c1
          have HBY := Hid.mk' (below_chain HBZ.out hb15)
          clear hb15
          go_wp2_with fail
          go_ret
          exact ⟨rfl, HBY.out⟩)
    · have HBAD := Hid.mk' (fun (W : World) (v1 v2 : Value) (hb : Below w.heap.size w W) (h1 : NumsAt W v1 n z) (h2 : NumsAt W v2 m l) => Interval_bad a v1 v2 n m z l W (hE.below hb) h1 h2 (by omega) (by omega) hc)
      clear hE h h'
      go_enter Tryd.func3, Tryd.ntmps3
      go_wp2_with fail
      refine hQ.mono ?_
      clear hQ
      rintro e w1 ⟨rfl, hb1⟩
      have HB := Hid.mk' hb1
      clear hb1
      go_wp2_with fail
      refine (HBR.out _).mono ?_
      rintro e w2 ⟨rfl, hw2⟩
      rw [hw2]
      clear hw2 w2
      go_wp2_with fail
      refine (HWE.out _ HB.out).mono ?_
      rintro e w3 ⟨rfl, hw3⟩
      rw [hw3]
      clear hw3 w3
      have HBL : Hid (w.heap.size ≤ w1.heap.size) := HB.out.size
      by_cases hwe : weightsErr z n = 0
      · have HME : Hid (mesE z n m l = msgE z n m l) := by show _ = _; unfold mesE; rw [if_pos hwe]
        rw [hwe]
        have HF := Hid.mk' (PairAt.fresh w1 0 (-1) 27)
        have HB2 := Hid.mk' (below_chain HB.out ((Below.refl _ _).alloc (Nat.le_refl _) (.cells #[.int .i64 0, .int .i64 (-1)] 27)))
        generalize hWF : w1.alloc (.cells #[.int .i64 0, .int .i64 (-1)] 27) = WF at *
        have y0 := HF.out.c0
        clear hwe
        go_wp2_with fail
        clear hWF y0
        generalize w1.heap.size = BF at *
        refine (HMF.out _ HB2.out).mono ?_
        rintro e w4 ⟨rfl, hb4⟩
        rw [← HME.out]
        have hF4 := HF.out.later hb4
        have HF := Hid.mk' (hF4.put ((mesE z n m l).1 : Int) (mesE z n m l).2)
        have HB : Hid (Below w.heap.size w (put2 w4 BF (.int .i64 ((mesE z n m l).1 : Int)) (.int .i64 (mesE z n m l).2))) := by unfold put2; exact ((below_chain HB2.out hb4).setCell HBL.out _).setCell HBL.out _
        have z0 := hF4.c0
        have z1 := hF4.c1
        have z2 := hF4.f0
        have z3 := hF4.f1
        clear hb4 hF4 HB2 HME
        unfold put2 at HF HB
        generalize hWG : (w4.setCell ⟨BF, 0, none⟩ (.int .i64 ((mesE z n m l).1 : Int))).setCell ⟨BF, 1, none⟩ (.int .i64 (mesE z n m l).2) = WG at *
        go_wp2_with fail
        clear hWG z0 z1 z2 z3
        refine (HIW.out _ HB.out).mono ?_
        rintro e w5 ⟨v5, rfl, hv5, _, hb5⟩
        have HF := Hid.mk' (HF.out.later hb5)
        have HB := Hid.mk' (below_chain HB.out hb5)
        obtain ⟨ad5, cap5, rfl⟩ := hv5.form
        have HV5 := Hid.mk' hv5
        clear hv5 hb5
        go_wp2_with fail
        refine (HIL.out _ HB.out).mono ?_
        rintro e w6 ⟨v6, rfl, hv6, _, hb6⟩
        have HF := Hid.mk' (HF.out.later hb6)
        have HB := Hid.mk' (below_chain HB.out hb6)
        have HV5 := Hid.mk' (HV5.out.later hb6)
        obtain ⟨ad6, cap6, rfl⟩ := hv6.form
        have HV6 := Hid.mk' hv6
        clear hv6 hb6
        go_wp2_with fail
        refine (HBAD.out _ _ _ HB.out HV5.out HV6.out).mono ?_
        rintro e w7 ⟨v7, rfl, hv7, hb7⟩
        have HF := Hid.mk' (HF.out.later hb7)
        have HB := Hid.mk' (below_chain HB.out hb7)
        have HV7 := Hid.mk' hv7
        clear hv7 hb7
        unfold zeroF
        obtain ⟨W8, hW8⟩ : ∃ W8, (((w7.alloc (.cells #[.int .i64 0, .int .i64 0] 30)).alloc (.cells #[.int .i64 0, .int .i64 0] 30)).alloc (.cells #[.int .i64 0, .int .i64 0] 30)).alloc (.cells #[.int .i64 0, .int .i64 0] 30) = W8 := ⟨_, rfl⟩
        obtain ⟨hb8, P1, P2, P3, P4⟩ := four_boxes w7 0 0 0 0 0 0 0 0 hW8
        have HF := Hid.mk' (HF.out.later hb8)
        have HB := Hid.mk' (below_chain HB.out hb8)
        have HV8 := Hid.mk' (HV7.out.later hb8)
        have HP1 := Hid.mk' P1
        have HP2 := Hid.mk' P2
        have HP3 := Hid.mk' P3
        have HP4 := Hid.mk' P4
        have y0 := HF.out.c0
        have y1 := HF.out.c1
        have hcb : (((mesE z n m l).1 : Int) == 0) = false := by simp; exact hc
        have HW8 := Hid.mk' hW8
        clear hb8 P1 P2 P3 P4 hW8
        go_upto_region 10 with fail
        rw [HW8.out]
        go_wp2_with fail
        refine (HFT.out _ _ HB.out HV8.out).mono ?_
        rintro e w9 ⟨rfl, hb9⟩
        have q1 := (HP1.out.later hb9).c0
        have q2 := (HP1.out.later hb9).c1
        have q3 := (HP2.out.later hb9).c0
        have q4 := (HP2.out.later hb9).c1
        have q5 := (HP3.out.later hb9).c0
        have q6 := (HP3.out.later hb9).c1
        have q7 := (HP4.out.later hb9).c0
        have q8 := (HP4.out.later hb9).c1
        have HB := Hid.mk' (below_chain HB.out hb9)
        clear hb9
        go_wp2_with fail
        go_ret
        exact ⟨rfl, HB.out⟩
      · have HME : Hid (mesE z n m l = (weightsErr z n, -1)) := by show _ = _; unfold mesE; rw [if_neg hwe]
        have HF := Hid.mk' (PairAt.fresh w1 (weightsErr z n : Int) (-1) 27)
        have HB2 := Hid.mk' (below_chain HB.out ((Below.refl _ _).alloc (Nat.le_refl _) (.cells #[.int .i64 (weightsErr z n : Int), .int .i64 (-1)] 27)))
        generalize hWF : w1.alloc (.cells #[.int .i64 (weightsErr z n : Int), .int .i64 (-1)] 27) = WF at *
        have y0 := HF.out.c0
        have hwb : ((weightsErr z n : Int) == 0) = false := by simp; exact hwe
        have HF : Hid (PairAt WF w1.heap.size ((mesE z n m l).1 : Int) (mesE z n m l).2) := by rw [HME.out]; exact HF.out
        clear HB
        have HB := HB2
        clear hwe HB2 HME
        go_wp2_with fail
        clear hWF y0 hwb
        generalize w1.heap.size = BF at *
        refine (HIW.out _ HB.out).mono ?_
        rintro e w5 ⟨v5, rfl, hv5, _, hb5⟩
        have HF := Hid.mk' (HF.out.later hb5)
        have HB := Hid.mk' (below_chain HB.out hb5)
        obtain ⟨ad5, cap5, rfl⟩ := hv5.form
        have HV5 := Hid.mk' hv5
        clear hv5 hb5
        go_wp2_with fail
        refine (HIL.out _ HB.out).mono ?_
        rintro e w6 ⟨v6, rfl, hv6, _, hb6⟩
        have HF := Hid.mk' (HF.out.later hb6)
        have HB := Hid.mk' (below_chain HB.out hb6)
        have HV5 := Hid.mk' (HV5.out.later hb6)
        obtain ⟨ad6, cap6, rfl⟩ := hv6.form
        have HV6 := Hid.mk' hv6
        clear hv6 hb6
        go_wp2_with fail
        refine (HBAD.out _ _ _ HB.out HV5.out HV6.out).mono ?_
        rintro e w7 ⟨v7, rfl, hv7, hb7⟩
        have HF := Hid.mk' (HF.out.later hb7)
        have HB := Hid.mk' (below_chain HB.out hb7)
        have HV7 := Hid.mk' hv7
        clear hv7 hb7
        unfold zeroF
        obtain ⟨W8, hW8⟩ : ∃ W8, (((w7.alloc (.cells #[.int .i64 0, .int .i64 0] 30)).alloc (.cells #[.int .i64 0, .int .i64 0] 30)).alloc (.cells #[.int .i64 0, .int .i64 0] 30)).alloc (.cells #[.int .i64 0, .int .i64 0] 30) = W8 := ⟨_, rfl⟩
        obtain ⟨hb8, P1, P2, P3, P4⟩ := four_boxes w7 0 0 0 0 0 0 0 0 hW8
        have HF := Hid.mk' (HF.out.later hb8)
        have HB := Hid.mk' (below_chain HB.out hb8)
        have HV8 := Hid.mk' (HV7.out.later hb8)
        have HP1 := Hid.mk' P1
        have HP2 := Hid.mk' P2
        have HP3 := Hid.mk' P3
        have HP4 := Hid.mk' P4
        have y0 := HF.out.c0
        have y1 := HF.out.c1
        have hcb : (((mesE z n m l).1 : Int) == 0) = false := by simp; exact hc
        have HW8 := Hid.mk' hW8
        clear hb8 P1 P2 P3 P4 hW8
        go_upto_region 10 with fail
        rw [HW8.out]
        go_wp2_with fail
        refine (HFT.out _ _ HB.out HV8.out).mono ?_
        rintro e w9 ⟨rfl, hb9⟩
        have q1 := (HP1.out.later hb9).c0
        have q2 := (HP1.out.later hb9).c1
        have q3 := (HP2.out.later hb9).c0
        have q4 := (HP2.out.later hb9).c1
        have q5 := (HP3.out.later hb9).c0
        have q6 := (HP3.out.later hb9).c1
        have q7 := (HP4.out.later hb9).c0
        have q8 := (HP4.out.later hb9).c1
        have HB := Hid.mk' (below_chain HB.out hb9)
        clear hb9
        go_wp2_with fail
        go_ret
        exact ⟨rfl, HB.out⟩
end Go.Proofs.YtjmjedpeibnnnaaDoor
