/- The place of the last bit, and whether a fraction is nothing, in the document. -/
import Derived.Test.YtgfejijaipggeaaDoorValueD
import Derived.Test.YtgfejijaipggeaaDoorNextD
namespace Go.Proofs.YtgfejijaipggeaaDoor
open Go.RowKit

theorem two_room {j : Nat} (hj : j ≤ 200) : 2 ^ j < 1000000 ^ 20 := Nat.lt_of_le_of_lt (Nat.pow_le_pow_right (by decide) hj) (by decide)
set_option maxRecDepth 100000 in
set_option maxHeartbeats 2000000 in
theorem place_any (n : Nat) (w : World) (hn : n ≤ 199) :
    Calls Tryd.prog 52 #[.int .i64 (n : Int)] w fun e w' => ∃ v, e = .returned v ∧ RatioAt w' v 1 (2 ^ n) ∧ Below w.heap.size w w' := by
  obtain ⟨W0, hW0⟩ : ∃ W0, W0 = w.alloc (.cells #[.bool false, .slice none 0 0, .slice none 0 0] 45) := ⟨_, rfl⟩
  have hb0 : Below w.heap.size w W0 := by rw [hW0]; exact (Below.refl _ _).alloc (Nat.le_refl _) _
  have HR0 : Hid (∀ W, Below W0.heap.size W0 W → RBox W w.heap.size false none 0 0 none 0 0 0 0) := fun W hb => by
    have h : RBox W0 w.heap.size false none 0 0 none 0 0 0 0 := by rw [hW0]; exact RBox.fresh (w := w) ⟨_, _, rfl, big_none w, big_none w⟩
    exact h.later hb
  have HB0 := Hid.mk' hb0
  have HB1 := Hid.mk' (fun W => BigOf_any 1 W (by decide))
  have HB2 := Hid.mk' (fun W => BigOf_any 2 W (by decide))
  have HQ1 := Hid.mk' (fun W => SignedOf_any 1 W (by decide) (by decide))
  clear hb0
  go_enter Tryd.func52, Tryd.ntmps52
  go_upto_region 1 with fail
  rw [← hW0]
  clear hW0
  go_wp2_with fail
  refine (HB1.out _).mono ?_
  rintro e w1 ⟨d1, rfl, hd1, hb1⟩
  have HDN := Hid.mk' hd1
  have HCUR := Hid.mk' hb1
  clear hd1 hb1
  go_wp2_with fail
  go_loopw [3, 4] (fun d i wr => ∃ k : Nat, k ≤ n ∧ i = .int .i64 (k : Int) ∧ Hid (BigAt wr d (2 ^ k)) ∧ Hid (Below W0.heap.size W0 wr)) (fun _ i _ => n - (intOf i).toNat)
  case atStart => exact ⟨0, Nat.zero_le _, rfl, HDN, HCUR⟩
  case round =>
    clear HDN HCUR
    obtain ⟨k, hk, rfl, HDN, HB⟩ := hrel
    have hk0 : (0 : Int) ≤ (k : Int) := by omega
    rcases Nat.lt_or_ge k n with h1 | h1
    · have hkI : (k : Int) < (n : Int) := by omega
      have HP := Hid.mk' (two_room (j := k) (by omega))
      go_wp2_with fail
      refine (HB2.out _).mono ?_
      rintro e w2 ⟨d2, rfl, hd2, hb2⟩
      have HD2 := Hid.mk' hd2
      have HDN2 := Hid.mk' (HDN.out.later hb2)
      have HB' := Hid.mk' (below_chain HB.out hb2)
      clear hd2 hb2
      go_wp2_with fail
      refine (BigMul_any u3 d2 (2 ^ k) 2 20 w2 HDN2.out HD2.out HP.out (by decide) (by decide)).mono ?_
      rintro e w3 ⟨d3, rfl, hd3, hb3⟩
      have HD3 : Hid (BigAt w3 d3 (2 ^ (k + 1))) := by show BigAt _ _ _; rw [Nat.pow_succ]; exact hd3
      have HB3 := Hid.mk' (below_chain HB'.out hb3)
      clear hd3 hb3
      go_wp2_with fail
      exact ⟨⟨k + 1, h1, by go_num, HD3, HB3⟩, by simp [intOf]; omega⟩
    · obtain rfl : k = n := by omega
      have hkI : ¬ (k : Int) < (k : Int) := by omega
      obtain ⟨ad, ld, cd, hde, _⟩ := HDN.out.len
      subst hde
      go_wp2_with fail
      refine (HQ1.out _).mono ?_
      rintro e w4 ⟨v4, rfl, ⟨u4, rfl, hu4⟩, hb4⟩
      obtain ⟨a4, l4, c4, rfl, _⟩ := hu4.len
      have hd4 : decide ((1 : Int) < 0) = false := rfl
      rw [hd4]
      have HRA : Hid (RatioAt w4 (.agg #[.bool false, .slice a4 l4 c4, .slice ad ld cd]) 1 (2 ^ k)) := ⟨_, _, rfl, hu4, HDN.out.later hb4⟩
      have HB4 := Hid.mk' (below_chain HB.out hb4)
      clear hu4 hb4 hd4
      have hR := HR0.out _ HB4.out
      have z0 := hR.c0
      have z1 := hR.c1
      have z2 := hR.c2
      have f0 := hR.fz 0 (by decide)
      have f1 := hR.fz 1 (by decide)
      have f2 := hR.fz 2 (by decide)
      obtain ⟨⟨g0, g1⟩, ⟨g2, g3⟩, g4⟩ := put_three' (.bool false) (.slice a4 l4 c4) (.slice ad ld cd) z0 z1 z2
      have HP := Hid.mk' (hR.put HRA.out)
      have HBF := Hid.mk' (below_chain HB0.out HB4.out)
      clear hR
      unfold put3 at HP
      go_wp2_with fail
      refine bodyPost_ret (v := .agg #[.bool false, .slice a4 l4 c4, .slice ad ld cd]) (by simp [results, Tryd.results52, go_sem, HP.out.c0, HP.out.c1, HP.out.c2]) rfl ⟨_, rfl, HP.out.rat, ?_⟩
      exact (((HBF.out.setCell (Nat.le_refl _) _).setCell (Nat.le_refl _) _).setCell (Nat.le_refl _) _)
set_option maxRecDepth 100000 in
/-- Is a fraction nothing? -/
theorem Nothing_any (v : Value) (n : Int) (d : Nat) (w : World) (h : RatioAt w v n d) :
    Calls Tryd.prog 28 #[v] w fun e w' => e = .returned (.bool (decide (n = 0))) ∧ Below w.heap.size w w' := by
  obtain ⟨u, q, rfl, hu, hq⟩ := h
  obtain ⟨a1, l1, c1, rfl, hl⟩ := hu.len
  obtain ⟨a2, l2, c2, rfl, _⟩ := hq.len
  generalize decide (n < 0) = s
  have HB : Hid (Below w.heap.size w (w.alloc (.cells #[.bool s, .slice a1 l1 c1, .slice a2 l2 c2] 45))) := (Below.refl _ _).alloc (Nat.le_refl _) _
  have HE : Hid (((l1 : Int) == 0) = decide (n = 0)) := by
    show _ = _
    by_cases hn : n = 0
    · have : l1 = 0 := hl.2 (by rw [hn]; rfl)
      rw [decide_eq_true hn, this]; rfl
    · have : l1 ≠ 0 := fun h0 => hn (by have := hl.1 h0; omega)
      rw [decide_eq_false hn, beq_eq_false_iff_ne]; omega
  obtain ⟨b, hb⟩ : ∃ b, ((l1 : Int) == 0) = b := ⟨_, rfl⟩
  have HE2 : Hid (b = decide (n = 0)) := by show _ = _; rw [← hb]; exact HE.out
  clear hl hu hq HE
  go_enter Tryd.func28, Tryd.ntmps28
  go_wp2_with fail
  go_ret
  exact ⟨by rw [← HE2.out]; rfl, HB.out⟩
end Go.Proofs.YtgfejijaipggeaaDoor
