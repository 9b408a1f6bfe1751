/- Digits raised by one in their last place. -/
import Derived.Test.YtgfejijaipggeaaDoorBitsMath
import Derived.Test.YtgfejijaipggeaaDoorNatPlus
namespace Go.Proofs.YtgfejijaipggeaaDoor
open Go.RowKit

theorem bitsL_raise : ∀ (d q : Nat), q + 1 < 2 ^ d → ∃ (pre : List UInt8) (t : Nat), bitsL q d = pre ++ 48 :: List.replicate t 49 ∧ bitsL (q + 1) d = pre ++ 49 :: List.replicate t 48
  | 0, q, h => by simp at h
  | d + 1, q, h => by
    rcases Nat.mod_two_eq_zero_or_one q with hq | hq
    · refine ⟨bitsL (q / 2) d, 0, ?_, ?_⟩
      · rw [bitsL, hq]; rfl
      · rw [bitsL, show (q + 1) / 2 = q / 2 by omega, show (q + 1) % 2 = 1 by omega]; rfl
    · obtain ⟨pre, t, h1, h2⟩ := bitsL_raise d (q / 2) (by rw [Nat.pow_succ] at h; omega)
      refine ⟨pre, t + 1, ?_, ?_⟩
      · rw [bitsL, hq, h1, List.replicate_succ', List.append_assoc, List.cons_append]; rfl
      · rw [bitsL, show (q + 1) / 2 = q / 2 + 1 by omega, show (q + 1) % 2 = 0 by omega, h2, List.replicate_succ', List.append_assoc, List.cons_append]; rfl
/-- A row of bytes that may be written. -/
structure BFill (w wr : World) (g : Nat) (l : List UInt8) : Prop where
  row : ∀ i, i < l.length → wr.cell? ⟨g, i, none⟩ = some (.int .u8 (((l.getD i 0).toNat : Nat) : Int))
  fz : ∀ i, i < l.length → wr.frozen? ⟨g, i, none⟩ = false
  below : Below w.heap.size w wr
  hg : w.heap.size ≤ g
theorem getD_setB (l : List UInt8) (j : Nat) (d : UInt8) (i : Nat) (hj : j < l.length) : (l.set j d).getD i 0 = if i = j then d else l.getD i 0 := by
  rw [List.getD_eq_getElem?_getD, List.getD_eq_getElem?_getD, List.getElem?_set]
  by_cases h : j = i
  · subst h; simp [hj]
  · rw [if_neg h, if_neg (fun e => h e.symm)]
theorem BFill.set {w wr : World} {g : Nat} {l : List UInt8} (h : BFill w wr g l) {j : Nat} (hj : j < l.length) (d : UInt8) : BFill w (wr.setCell ⟨g, j, none⟩ (.int .u8 ((d.toNat : Nat) : Int))) g (l.set j d) := by
  refine ⟨fun i hi => ?_, fun i hi => ?_, h.below.setCell h.hg _, h.hg⟩
  · rw [List.length_set] at hi
    rw [getD_setB l j d i hj]
    by_cases hij : i = j
    · subst hij
      rw [if_pos rfl]
      exact World.cell?_setCell_same _ _ _ (h.row i hi)
    · rw [if_neg hij, World.cell?_setCell_other _ _ _ _ (fun e => hij (by have := congrArg Addr.off e; exact this.symm))]
      exact h.row i hi
  · rw [List.length_set] at hi
    rw [World.frozen?_setCell]; exact h.fz i hi
theorem getD_pre (pre s : List UInt8) (x : UInt8) : (pre ++ x :: s).getD pre.length 0 = x := by
  rw [List.getD_eq_getElem?_getD, List.getElem?_append_right (Nat.le_refl _)]; simp
theorem getD_rep (pre : List UInt8) (x y : UInt8) (t i : Nat) (h1 : pre.length < i) (h2 : i < pre.length + 1 + t) : (pre ++ x :: List.replicate t y).getD i 0 = y := by
  rw [List.getD_eq_getElem?_getD, List.getElem?_append_right (by omega)]
  obtain ⟨j, hj⟩ : ∃ j, i - pre.length = j + 1 := ⟨i - pre.length - 1, by omega⟩
  rw [hj, List.getElem?_cons_succ, List.getElem?_replicate, if_pos (by omega)]
  rfl
set_option maxRecDepth 100000 in
theorem lastIndex_any (g cap t : Nat) (pre : List UInt8) (w wr : World) (h : BFill w wr g (pre ++ 48 :: List.replicate t 49)) (hn : pre.length + 1 + t ≤ 100000) :
    Calls Tryd.prog 103 #[.slice (some ⟨g, 0, none⟩) (pre.length + 1 + t) cap, .int .u8 48] wr fun e w' => e = .returned (.int .i64 (pre.length : Int)) ∧ w' = wr := by
  have HR := Hid.mk' h
  have HL : Hid ((pre ++ 48 :: List.replicate t 49).length = pre.length + 1 + t) := by show _ = _; simp; omega
  have H48 := Hid.mk' (getD_pre pre (List.replicate t 49) 48)
  have H49 := Hid.mk' (getD_rep pre 48 49 t)
  obtain ⟨p, hp⟩ : ∃ p, p = pre.length := ⟨_, rfl⟩
  rw [← hp] at hn HL H48 H49 ⊢
  clear h hp
  obtain ⟨W, hW⟩ : ∃ W, W = wr := ⟨_, rfl⟩
  rw [← hW] at HR ⊢
  clear hW
  go_enter Tryd.func103, Tryd.ntmps103
  go_wp2_with fail
  go_loopw [5] (fun i wz => ∃ k : Nat, p ≤ k ∧ k ≤ p + t ∧ i = .int .i64 (k : Int) ∧ wz = W) (fun i _ => (intOf i).toNat)
  case atStart => exact ⟨p + t, by omega, Nat.le_refl _, by go_num, rfl⟩
  case round =>
    obtain ⟨k, hk1, hk2, rfl, rfl⟩ := hrel
    have hc := HR.out.row k (by rw [HL.out]; omega)
    have hk0 : (0 : Int) ≤ (k : Int) := by omega
    have hkI : (k : Int) < ((p + 1 + t : Nat) : Int) := by omega
    rcases Nat.lt_or_ge p k with h1 | h1
    · rw [H49.out k h1 (by omega)] at hc
      have hc' : wr.cell? ⟨g, k, none⟩ = some (.int .u8 49) := hc
      clear hc
      go_wp2_with fail
      exact ⟨⟨k - 1, by omega, by omega, by go_num, trivial⟩, by simp [intOf]; omega⟩
    · obtain rfl : p = k := by omega
      rw [H48.out] at hc
      have hc' : wr.cell? ⟨g, p, none⟩ = some (.int .u8 48) := hc
      clear hc
      go_wp2_with fail
      go_ret
      exact ⟨rfl, rfl⟩

theorem raise_step (pre : List UInt8) (t i : Nat) (hi : i < t) : (pre ++ 49 :: (List.replicate i 48 ++ List.replicate (t - i) 49)).set (pre.length + 1 + i) 48 = pre ++ 49 :: (List.replicate (i + 1) 48 ++ List.replicate (t - (i + 1)) 49) := by
  rw [List.set_append_right _ _ (by omega), show pre.length + 1 + i - pre.length = i + 1 by omega, List.set_cons_succ, List.set_append_right _ _ (by simp), List.length_replicate, Nat.sub_self, show t - i = (t - (i + 1)) + 1 by omega, List.replicate_succ, List.set_cons_zero, List.replicate_succ', List.append_assoc]
  rfl
set_option maxRecDepth 100000 in
set_option maxHeartbeats 1000000 in
theorem raise_any (g cap t : Nat) (pre : List UInt8) (w wr : World) (h : BFill w wr g (pre ++ 48 :: List.replicate t 49)) (hn : pre.length + 1 + t ≤ 100000) :
    Calls Tryd.prog 62 #[.slice (some ⟨g, 0, none⟩) (pre.length + 1 + t) cap] wr fun e w' => e = .returned (.tuple #[]) ∧ BFill w w' g (pre ++ 49 :: List.replicate t 48) := by
  have hL0 := lastIndex_any g cap t pre w wr h hn
  have hL : Calls Tryd.prog 82 #[.slice (some ⟨g, 0, none⟩) (pre.length + 1 + t) cap, .int .u8 48] wr fun e w' => e = .returned (.int .i64 (pre.length : Int)) ∧ w' = wr := by
    clear h
    go_enter Tryd.func82, Tryd.ntmps82
    go_wp2_with fail
    refine hL0.mono ?_
    clear hL0
    rintro e w1 ⟨rfl, hw1⟩
    rw [hw1]
    go_wp2_with fail
    go_ret
    exact ⟨rfl, rfl⟩
  clear hL0
  have hlen : (pre ++ 48 :: List.replicate t 49).length = pre.length + 1 + t := by simp; omega
  have y0 := h.row pre.length (by omega)
  have y1 := h.fz pre.length (by omega)
  have hset := h.set (j := pre.length) (by omega) 49
  have e1 : (pre ++ 48 :: List.replicate t 49).set pre.length 49 = pre ++ 49 :: (List.replicate 0 48 ++ List.replicate (t - 0) 49) := by
    rw [List.set_append_right _ _ (Nat.le_refl _), Nat.sub_self, List.set_cons_zero]; rfl
  rw [e1] at hset
  have HSET := Hid.mk' hset
  change Hid (BFill w (wr.setCell ⟨g, pre.length, none⟩ (.int .u8 49)) g _) at HSET
  have HST := Hid.mk' (fun i hi => raise_step pre t i hi)
  have HLN : Hid (∀ i, i ≤ t → (pre ++ 49 :: (List.replicate i 48 ++ List.replicate (t - i) 49)).length = pre.length + 1 + t) := fun i hi => by simp; omega
  have HEND : Hid (pre ++ 49 :: (List.replicate t 48 ++ List.replicate (t - t) 49) = pre ++ 49 :: List.replicate t 48) := by show _ = _; rw [Nat.sub_self]; simp
  obtain ⟨p, hp⟩ : ∃ p, p = pre.length := ⟨_, rfl⟩
  rw [← hp] at hn hL y0 y1 HSET HST HLN ⊢
  clear h hset hlen e1 hp
  have hpI : (p : Int) < ((p + 1 + t : Nat) : Int) := by omega
  have hp0 : (0 : Int) ≤ (p : Int) := by omega
  generalize hx : ((pre ++ 48 :: List.replicate t 49).getD p 0).toNat = x at y0
  clear hx
  go_enter Tryd.func62, Tryd.ntmps62
  go_wp2_with fail
  refine hL.mono ?_
  clear hL
  rintro e w1 ⟨rfl, hw1⟩
  rw [hw1]
  clear hw1 w1
  go_wp2_with fail
  clear y0 y1
  generalize wr.setCell ⟨g, p, none⟩ (.int .u8 49) = W1 at *
  go_loopw [3] (fun i wz => ∃ k : Nat, k ≤ t ∧ i = .int .i64 ((p : Int) + 1 + (k : Int)) ∧ Hid (BFill w wz g (pre ++ 49 :: (List.replicate k 48 ++ List.replicate (t - k) 49)))) (fun i _ => p + 1 + t - (intOf i).toNat)
  case atStart => exact ⟨0, Nat.zero_le _, by go_num, HSET.out⟩
  case round =>
    obtain ⟨k, hk, rfl, HF⟩ := hrel
    rcases Nat.lt_or_ge k t with h1 | h1
    · have y0 := HF.out.row (p + 1 + k) (by rw [HLN.out k hk]; omega)
      have y1 := HF.out.fz (p + 1 + k) (by rw [HLN.out k hk]; omega)
      have hs := HF.out.set (j := p + 1 + k) (by rw [HLN.out k hk]; omega) 48
      rw [HST.out k h1] at hs
      have HS : Hid (BFill w (wr.setCell ⟨g, p + 1 + k, none⟩ (.int .u8 48)) g (pre ++ 49 :: (List.replicate (k + 1) 48 ++ List.replicate (t - (k + 1)) 49))) := hs
      have hi1 : (p : Int) + 1 + (k : Int) < ((p + 1 + t : Nat) : Int) := by omega
      have hi0 : (0 : Int) ≤ (p : Int) + 1 + (k : Int) := by omega
      obtain ⟨q, hq⟩ : ∃ q : Nat, q = p + 1 + k := ⟨_, rfl⟩
      have hqI : (p : Int) + 1 + (k : Int) = (q : Int) := by omega
      rw [← hq] at y0 y1 HS
      rw [hqI] at hi1 hi0 ⊢
      have HQ := Hid.mk' hqI
      generalize hx : ((pre ++ 49 :: (List.replicate k 48 ++ List.replicate (t - k) 49)).getD q 0).toNat = x at y0
      clear hx hq hs hqI
      go_wp2_with fail
      exact ⟨⟨k + 1, h1, by have := HQ.out; go_num, HS.out⟩, by simp [intOf]; have := HQ.out; omega⟩
    · obtain rfl : t = k := by omega
      have hi1 : ¬ (p : Int) + 1 + (t : Int) < ((p + 1 + t : Nat) : Int) := by omega
      have HFN : Hid (BFill w wr g (pre ++ 49 :: List.replicate t 48)) := by rw [← HEND.out]; exact HF.out
      go_wp2_with fail
      go_end0
      exact ⟨rfl, HFN.out⟩
end Go.Proofs.YtgfejijaipggeaaDoor
