/- A row of numbers that is made and filled. -/
import Derived.Test.YtgfejijaipggeaaDoorWeights
import Derived.Test.YtgfejijaipggeaaDoorPackA
import Derived.Test.YtgfejijaipggeaaDoorCutP
import Derived.Test.YtgfejijaipggeaaDoorLastOp
import Derived.Deep.LoopGhost
import Derived.Deep.RegionHeld3
import Derived.Test.YtgfejijaipggeaaDoorIntervalP
import Derived.Test.YtgfejijaipggeaaDoorPlus
import Derived.Test.YtgfejijaipggeaaDoorCode
import Derived.Test.YtgfejijaipggeaaDoorMsgP
import Derived.Test.YtgfejijaipggeaaDoorValidWalk
import Derived.Test.YtgfejijaipggeaaDoorBig
import Derived.Test.YtgfejijaipggeaaDoorIvD
namespace Go.Proofs.YtgfejijaipggeaaDoor
open Go.RowKit

/-- The row that is filled. -/
structure Fills (w wr : World) (g T : Nat) (f : Nat → Int) : Prop where
  row : RowAt wr g 0 T f
  fz : ∀ i, i < T → wr.frozen? ⟨g, 0 + i, none⟩ = false
  below : Below w.heap.size w wr
  hg : w.heap.size ≤ g
theorem Fills.set {w wr : World} {g T : Nat} {f : Nat → Int} (h : Fills w wr g T f) {j : Nat} (hj : j < T) (x : Int) {f' : Nat → Int} (hf : ∀ i, i < T → f' i = if i = j then x else f i) : Fills w (wr.setCell ⟨g, j, none⟩ (.int .i64 x)) g T f' := by
  refine ⟨fun i hi => ?_, fun i hi => ?_, h.below.setCell h.hg _, h.hg⟩
  · rw [hf i hi]
    by_cases hij : i = j
    · subst hij
      rw [if_pos rfl, Nat.zero_add]
      exact World.cell?_setCell_same _ _ _ (by have := h.row i hi; rwa [Nat.zero_add] at this)
    · rw [if_neg hij, World.cell?_setCell_other _ _ _ _ (fun e => hij (by have := congrArg Addr.off e; simp at this; omega))]
      exact h.row i hi
  · rw [World.frozen?_setCell]
    exact h.fz i hi
theorem Fills.drew {w wr : World} {g T : Nat} {f : Nat → Int} (h : Fills w wr g T f) : Fills w wr.drew g T f := ⟨h.row, h.fz, h.below.drew, h.hg⟩
theorem fills_made {w w2 : World} {g n : Nat} {t : TypeId} {xs : List Value} (h : w2.ownsRow w.heap.size t 1 (.slice (some ⟨g, 0, none⟩) n n) n xs) (hx : ∀ i, i < n → xs[i]? = some (.int .i64 0)) (hg : w.grownBy w2 none) : Fills w w2 g n (fun _ => 0) := by
  obtain ⟨hl, hr⟩ := h
  rcases hr with ⟨hx, _⟩ | ⟨g', cap', cur, hv, hb, hh, _, _, hs, ht⟩
  · cases hx
  · obtain ⟨rfl, rfl⟩ : g = g' ∧ n = cap' := by simpa using hv
    refine ⟨fun i hi => ?_, fun i hi => ?_, (Below.refl _ _).grown hg (Nat.le_refl _) (fun k hk => by cases hk), hb⟩
    · rw [← hx i hi, ← ht, List.getElem?_take_of_lt (by omega)]
      simp [World.cell?, hh]
    · simp [World.frozen?, hh]
theorem made_zero (n i : Nat) (hi : i < n) : (madeCells (Value.int IntKind.i64 0).cells (n * 1)).toList[i]? = some (.int .i64 0) := by
  simp [madeCells, hi, Nat.mod_one, Value.cells]
end Go.Proofs.YtgfejijaipggeaaDoor

/- arith.partAt and arith.Decode. -/
namespace Go.Proofs.YtgfejijaipggeaaDoor
open Go.RowKit

/-- The symbols of a number. -/
def symK (z : Nat → Int) (n S a0 d0 k : Nat) : Nat := symOf z n S (decAD z n S a0 d0 k).1 (decAD z n S a0 d0 k).2
theorem dec_room {L k K : Nat} (h : L + 12 * k < 64 * K) : 2 ^ L * 4096 ^ k < 18446744073709551616 ^ K := by
  have e : (4096 : Nat) ^ k = 2 ^ (12 * k) := by rw [show (4096 : Nat) = 2 ^ 12 by decide, ← Nat.pow_mul]
  rw [e, ← Nat.pow_add, word_two]
  exact Nat.pow_lt_pow_right (by decide) h
theorem part_sum {A S D B : Nat} (hD : 0 < D) (h : B * D ≤ A * S) : A * S % D + D * (A * S / D - B) = A * S - B * D := by
  have h1 := Nat.div_add_mod (A * S) D
  have h2 : B ≤ A * S / D := (Nat.le_div_iff_mul_le hD).2 h
  rw [Nat.mul_sub, Nat.mul_comm D B]
  have h3 : D * B ≤ D * (A * S / D) := Nat.mul_le_mul_left _ h2
  rw [Nat.mul_comm D B] at h3
  omega
end Go.Proofs.YtgfejijaipggeaaDoor

/- A number of a message's interval is decoded to the message. -/
namespace Go.Proofs.YtgfejijaipggeaaDoor
open Go.RowKit

structure InCut (z l : Nat → Int) (S a0 d0 k : Nat) : Prop where
  lo : cutL z l S k * d0 ≤ a0 * S ^ k
  hi : a0 * S ^ k < (cutL z l S k + cutW z l k) * d0
/-- A symbol's own part. -/
theorem part_in {z : Nat → Int} {n S s : Nat} (hz : OkW z n) (hS : sumN z n = (S : Int)) (hs : s < n) : (sumN z s).toNat + (z s).toNat ≤ S ∧ (sumN z (s + 1) = (((sumN z s).toNat + (z s).toNat : Nat) : Int)) ∧ 0 ≤ sumN z s := by
  have hm := sumN_mono hz.nn (k := s + 1) hs
  rw [hS] at hm
  have e : sumN z (s + 1) = sumN z s + z s := rfl
  have p1 := hz.part (k := s) (by omega)
  have p2 := hz.lt hs
  omega
theorem cutL_succ (z l : Nat → Int) (S k : Nat) : cutL z l S (k + 1) = cutL z l S k * S + cutW z l k * (sumN z (l k).toNat).toNat := rfl
theorem cutW_succ (z l : Nat → Int) (k : Nat) : cutW z l (k + 1) = cutW z l k * (z (l k).toNat).toNat := rfl
theorem InCut.outer {z l : Nat → Int} {n m S a0 d0 k : Nat} (hz : OkW z n) (hS : sumN z n = (S : Int)) (hl : ∀ i, i < m → 0 ≤ l i ∧ l i < (n : Int)) (hS0 : 0 < S) (hk : k < m) (h : InCut z l S a0 d0 (k + 1)) : InCut z l S a0 d0 k := by
  obtain ⟨h0, h1⟩ := hl k hk
  have hp := (part_in hz hS (s := (l k).toNat) (by omega)).1
  have a1 := h.lo
  have a2 := h.hi
  rw [cutL_succ, cutW_succ] at a2
  rw [cutL_succ] at a1
  suffices hh : cutL z l S k * d0 ≤ a0 * S ^ k ∧ a0 * S ^ k < (cutL z l S k + cutW z l k) * d0 from ⟨hh.1, hh.2⟩
  generalize (sumN z (l k).toNat).toNat = B at *
  generalize (z (l k).toNat).toNat = Z at *
  generalize cutL z l S k = L at *
  generalize cutW z l k = W at *
  have e : a0 * S ^ (k + 1) = a0 * S ^ k * S := by rw [Nat.pow_succ, Nat.mul_assoc]
  rw [e] at a1 a2
  constructor
  · refine Nat.le_of_mul_le_mul_right ?_ hS0
    have : L * d0 * S ≤ (L * S + W * B) * d0 := by rw [Nat.add_mul, Nat.mul_right_comm]; exact Nat.le_add_right _ _
    omega
  · refine Nat.lt_of_mul_lt_mul_right (a := S) ?_
    have h2 : L * S + W * B + W * Z ≤ (L + W) * S := by
      rw [Nat.add_assoc, ← Nat.mul_add, Nat.add_mul]
      exact Nat.add_le_add_left (Nat.mul_le_mul_left _ hp) _
    have h3 := Nat.mul_le_mul_right d0 h2
    rw [Nat.mul_right_comm] at h3
    omega
theorem InCut.down {z l : Nat → Int} {n m S a0 d0 : Nat} (hz : OkW z n) (hS : sumN z n = (S : Int)) (hl : ∀ i, i < m → 0 ≤ l i ∧ l i < (n : Int)) (hS0 : 0 < S) (h : InCut z l S a0 d0 m) : ∀ j, j ≤ m → InCut z l S a0 d0 (m - j)
  | 0, _ => h
  | j + 1, hj => by
    have ih := InCut.down hz hS hl hS0 h j (by omega)
    rw [show m - j = (m - (j + 1)) + 1 by omega] at ih
    exact ih.outer hz hS hl hS0 (by omega)
theorem dec_back {z l : Nat → Int} {n m S a0 d0 : Nat} (hz : OkW z n) (hS : sumN z n = (S : Int)) (hl : ∀ i, i < m → 0 ≤ l i ∧ l i < (n : Int)) (hpos : ∀ i, i < m → 0 < z (l i).toNat) (hS0 : 0 < S) (hd : 0 < d0) (h : InCut z l S a0 d0 m) : ∀ k, k ≤ m → decAD z n S a0 d0 k = (a0 * S ^ k - cutL z l S k * d0, d0 * cutW z l k) ∧ (k < m → (symK z n S a0 d0 k : Int) = l k)
  | k, hk => by
    have hin : ∀ k, k ≤ m → InCut z l S a0 d0 k := fun k hk => by
      have := InCut.down hz hS hl hS0 h (m - k) (by omega)
      rwa [show m - (m - k) = k by omega] at this
    have hsym : ∀ k, k < m → decAD z n S a0 d0 k = (a0 * S ^ k - cutL z l S k * d0, d0 * cutW z l k) → symK z n S a0 d0 k = (l k).toNat := fun k hk e => by
      obtain ⟨h0, h1⟩ := hl k hk
      obtain ⟨p1, p2, p3⟩ := part_in hz hS (s := (l k).toNat) (by omega)
      have hW := cutW_pos (z := z) (l := l) (k := k) (fun i hi => hpos i (by omega))
      have g1 := hin k (by omega)
      have g2 := hin (k + 1) (by omega)
      have a1 := g2.lo
      have a2 := g2.hi
      have a3 := g1.lo
      rw [cutL_succ, cutW_succ] at a2
      rw [cutL_succ] at a1
      have e2 : a0 * S ^ (k + 1) = a0 * S ^ k * S := by rw [Nat.pow_succ, Nat.mul_assoc]
      rw [e2] at a1 a2
      unfold symK
      rw [e]
      show symOf z n S (a0 * S ^ k - cutL z l S k * d0) (d0 * cutW z l k) = _
      have hq : (sumN z (l k).toNat).toNat ≤ (a0 * S ^ k - cutL z l S k * d0) * S / (d0 * cutW z l k) ∧ (a0 * S ^ k - cutL z l S k * d0) * S / (d0 * cutW z l k) < (sumN z (l k).toNat).toNat + (z (l k).toNat).toNat := by
        have hdw : 0 < d0 * cutW z l k := Nat.mul_pos hd hW
        rw [Nat.le_div_iff_mul_le hdw, Nat.div_lt_iff_lt_mul hdw]
        generalize (sumN z (l k).toNat).toNat = B at *
        generalize (z (l k).toNat).toNat = Z at *
        generalize cutL z l S k = L at *
        generalize cutW z l k = W at *
        generalize a0 * S ^ k = X at *
        rw [Nat.mul_sub_right_distrib]
        have e3 : L * d0 * S = L * S * d0 := Nat.mul_right_comm _ _ _
        have e4 : B * (d0 * W) = W * B * d0 := by rw [Nat.mul_comm d0, ← Nat.mul_assoc, Nat.mul_comm B]
        have e5 : (B + Z) * (d0 * W) = (W * B + W * Z) * d0 := by rw [← Nat.mul_add, Nat.mul_comm d0, ← Nat.mul_assoc, Nat.mul_comm (B + Z)]
        have e6 : (L * S + W * B + W * Z) * d0 = L * S * d0 + (W * B + W * Z) * d0 := by rw [Nat.add_assoc, Nat.add_mul]
        rw [Nat.add_mul] at a1
        rw [e6] at a2
        rw [e3, e4, e5]
        omega
      refine fstB_at (fun i hi => decide_eq_false ?_) (decide_eq_true ?_) (by omega)
      · have hm := sumN_mono (z := z) (k := i + 1) (n := (l k).toNat) (fun j hj => hz.nn j (by omega)) (by omega)
        omega
      · rw [p2]
        have := hq.2
        omega
    have hall : ∀ k, k ≤ m → decAD z n S a0 d0 k = (a0 * S ^ k - cutL z l S k * d0, d0 * cutW z l k) := fun k => by
      induction k with
      | zero => intro _; simp [decAD, cutL, cutW]
      | succ k ih =>
        intro hk
        have e := ih (by omega)
        have es := hsym k (by omega) e
        unfold symK at es
        rw [decAD, es, e]
        show ((a0 * S ^ k - cutL z l S k * d0) * S - (sumN z (l k).toNat).toNat * (d0 * cutW z l k), d0 * cutW z l k * (z (l k).toNat).toNat) = _
        rw [cutL_succ, cutW_succ, Nat.mul_assoc d0, Nat.mul_sub_right_distrib, Nat.sub_sub, Nat.pow_succ, Nat.mul_assoc a0, Nat.add_mul, Nat.mul_right_comm (cutL z l S k), Nat.mul_comm d0 (cutW z l k), ← Nat.mul_assoc (sumN z (l k).toNat).toNat, Nat.mul_comm (sumN z (l k).toNat).toNat]
    exact ⟨hall k hk, fun h' => by rw [hsym k h' (hall k hk)]; have := (hl k h').1; omega⟩
/-- All numbers that begin with the text lie in the interval. -/
theorem txt_in {z l : Nat → Int} {m S J u r e : Nat} (h : Txt (cutL z l S m) (cutW z l m) (S ^ m) J u) (hD : 0 < S ^ m) (hLW : cutL z l S m + cutW z l m ≤ S ^ m) (he : e < 2 ^ r) : InCut z l S (u * 2 ^ r + e) (2 ^ (J + r)) m := by
  obtain ⟨h1, h2, h3, _⟩ := txt_room h hD hLW
  suffices hh : cutL z l S m * 2 ^ (J + r) ≤ (u * 2 ^ r + e) * S ^ m ∧ (u * 2 ^ r + e) * S ^ m < (cutL z l S m + cutW z l m) * 2 ^ (J + r) from ⟨hh.1, hh.2⟩
  generalize cutL z l S m = L at *
  generalize cutW z l m = W at *
  constructor
  · show L * 2 ^ (J + r) ≤ _
    have := Nat.mul_le_mul_right (2 ^ r) h2
    rw [Nat.pow_add, ← Nat.mul_assoc, Nat.add_mul, Nat.mul_right_comm u]
    omega
  · show _ < (L + W) * 2 ^ (J + r)
    have a1 := Nat.mul_le_mul_right (2 ^ r) h1
    have a2 : (u * 2 ^ r + e) * S ^ m < (u + 1) * S ^ m * 2 ^ r := by
      rw [Nat.mul_right_comm]
      refine Nat.mul_lt_mul_of_pos_right ?_ hD
      rw [Nat.add_mul, Nat.one_mul]; omega
    rw [Nat.pow_add, ← Nat.mul_assoc]
    omega
/-- It is short. -/
theorem txt_short {L W D J u : Nat} (h : Txt L W D J u) (hJ : 2 ≤ J) : W * 2 ^ (J - 2) < D := by
  have h1 := h.first (J - 1) (by omega)
  have h2 := needN_le (D := D) (r := L * 2 ^ (J - 1) % D)
  generalize needN D (L * 2 ^ (J - 1) % D) = x at *
  rw [show J - 1 = (J - 2) + 1 by omega, Nat.pow_succ, ← Nat.mul_assoc] at h1
  omega
end Go.Proofs.YtgfejijaipggeaaDoor

/- arith.Encode of a message that has no fault; the number that its text tells. -/
namespace Go.Proofs.YtgfejijaipggeaaDoor
open Go.RowKit

theorem pow_room4 {S j : Nat} (hS : S ≤ 4096) (hj : j ≤ 60) : 4 * S ^ j < 18446744073709551616 ^ 12 := by
  have h1 : S ^ j ≤ 4096 ^ j := Nat.pow_le_pow_left hS j
  have h2 : 4096 ^ j ≤ 4096 ^ 60 := Nat.pow_le_pow_right (by decide) hj
  have h3 : 4 * 4096 ^ 60 < 18446744073709551616 ^ 12 := by decide
  omega
set_option maxRecDepth 100000 in
theorem Encode_ok (a : Nat → Addr) (b o cap : Nat) (vl : Value) (n m S : Nat) (z l : Nat → Int) (w : World) (hE : Errs w a) (hrw : RowAt w b o n z) (hcap : n ≤ cap) (hl : NumsAt w vl m l) (hS : sumN z n = (S : Int)) (hok : (mesE z n m l).1 = 0) (hm60 : m ≤ 60) :
    Calls Tryd.prog 11 #[.slice (some ⟨b, o, none⟩) n cap, vl] w fun e w' => ∃ J u, e = .returned (.tuple #[.string ⟨(bitsL u J).toArray⟩, .nilIface]) ∧ Txt (cutL z l S m) (cutW z l m) (S ^ m) J u ∧ J ≤ 768 ∧ Below w.heap.size w w' := by
  obtain ⟨hwe, hz, hn, hm, hli, hpos⟩ := mesE_ok hok
  have hw : NumsAt w (.slice (some ⟨b, o, none⟩) n cap) n z := Or.inr ⟨b, o, cap, rfl, hz.posN, hrw⟩
  have hC := checkMessage_any a _ vl n m z l _ hE hw hl (by omega) (by omega)
  have HS4 : Hid (0 < S ∧ S ≤ 4096) := by have h1 := hz.pos; have h2 := hz.le; rw [hS] at h1 h2; exact ⟨by omega, by omega⟩
  have HBL := Hid.mk' (cut_le hz hS hli m (Nat.le_refl _))
  have HWP : Hid (0 < cutW z l m) := cutW_pos hpos
  have HRM := Hid.mk' (pow_room4 (j := m) HS4.out.2 hm60)
  have HCUT : Hid (∀ W, Below w.heap.size w W → Calls Tryd.prog 33 #[.slice (some ⟨b, o, none⟩) n cap, vl] W fun e w' => ∃ u0 u1 u2, e = .returned (.agg #[u0, u1, u2]) ∧ NatAt w' u0 (cutL z l S m) ∧ NatAt w' u1 (cutW z l m) ∧ NatAt w' u2 (S ^ m) ∧ Below W.heap.size W w') := fun W hb => cut_any b o cap vl n m S z l W (hrw.later hb) hcap (hl.later hb) hz (by omega) hm hS hli
  generalize cutL z l S m = NL at *
  generalize cutW z l m = NW at *
  generalize S ^ m = ND at *
  clear hE hw hz hli hpos hwe hrw HS4 hl
  go_enter Tryd.func11, Tryd.ntmps11
  go_wp2_with fail
  refine hC.mono ?_
  clear hC
  rintro e w1 ⟨v, rfl, hv, hb1⟩
  obtain rfl := hv.nil0 hok
  have HB1 := Hid.mk' hb1
  clear hv hb1
  go_wp2_with fail
  refine (HCUT.out _ HB1.out).mono ?_
  rintro e w2 ⟨u0, u1, u2, rfl, hu0, hu1, hu2, hb2⟩
  have hT := text_any u0 u1 u2 NL NW ND 12 w2 hu0 hu1 hu2 (by have := HBL.out; have := HWP.out; omega) HWP.out HBL.out HRM.out (by decide)
  have HB2 := Hid.mk' (below_chain HB1.out hb2)
  clear hu0 hu1 hu2 hb2
  go_wp2_with fail
  refine hT.mono ?_
  clear hT
  rintro e w3 ⟨J, u, rfl, h1, h2, h3⟩
  go_wp2_with fail
  go_ret2
  exact ⟨J, u, rfl, h1, h2, below_chain HB2.out h3⟩

/-- What the bytes of a text tell. -/
theorem bitAt_list (x : List UInt8) (i : Nat) : bitAt ⟨x.toArray⟩ i = if x[i]? = some 48 then some 0 else if x[i]? = some 49 then some 1 else none := by
  unfold bitAt
  by_cases h : i < x.length
  · rw [dif_pos (show i < (⟨x.toArray⟩ : ByteArray).size from h)]
    have e : (⟨x.toArray⟩ : ByteArray)[i]'h = x[i]'h := rfl
    rw [e, List.getElem?_eq_getElem h]
    simp
  · rw [dif_neg (show ¬ i < (⟨x.toArray⟩ : ByteArray).size from h), List.getElem?_eq_none (by omega)]
    simp
theorem valT_app (x y : List UInt8) : ∀ k, k ≤ x.length → valT ⟨(x ++ y).toArray⟩ k = valT ⟨x.toArray⟩ k
  | 0, _ => rfl
  | k + 1, h => by
    rw [valT, valT, valT_app x y k (by omega), bitAt_list, bitAt_list, List.getElem?_append_left (by omega)]
theorem valT_behind (x y : List UInt8) : ∀ k, valT ⟨(x ++ y).toArray⟩ (x.length + k) = valT ⟨x.toArray⟩ x.length * 2 ^ k + valT ⟨y.toArray⟩ k
  | 0 => by rw [Nat.add_zero, valT_app x y _ (Nat.le_refl _)]; simp [valT]
  | k + 1 => by
    rw [← Nat.add_assoc, valT, valT_behind x y k, valT, bitAt_list, bitAt_list, List.getElem?_append_right (by omega), Nat.add_sub_cancel_left, Nat.pow_succ, ← Nat.mul_assoc]
    omega
theorem valT_bits : ∀ (d u : Nat), u < 2 ^ d → valT ⟨(bitsL u d).toArray⟩ d = u
  | 0, u, h => by simp at h; subst h; rfl
  | d + 1, u, h => by
    have hl := bitsL_length (u / 2) d
    rw [bitsL, valT]
    have h1 := valT_app (bitsL (u / 2) d) [UInt8.ofNat (48 + u % 2)] d (by omega)
    rw [h1, valT_bits d (u / 2) (by rw [Nat.pow_succ] at h; omega), bitAt_list, List.getElem?_append_right (by omega), hl, Nat.sub_self]
    rcases Nat.mod_two_eq_zero_or_one u with hu | hu
    · rw [hu]; simp; omega
    · rw [hu]; simp; omega
theorem bits_of (d u : Nat) : ∀ c ∈ bitsL u d, c = 48 ∨ c = 49 := by
  induction d generalizing u with
  | zero => intro c h; cases h
  | succ d ih =>
    intro c h
    rw [bitsL, List.mem_append] at h
    rcases h with h | h
    · exact ih _ c h
    · rw [List.mem_singleton] at h
      subst h
      rcases Nat.mod_two_eq_zero_or_one u with hu | hu
      · rw [hu]; exact Or.inl rfl
      · rw [hu]; exact Or.inr rfl
theorem bitB_bits (d u : Nat) : bitB ⟨(bitsL u d).toArray⟩ = true := by
  unfold bitB
  rw [List.all_eq_true]
  intro c hc
  rcases bits_of d u c (by simpa using hc) with rfl | rfl <;> rfl
theorem bitB_app (x : List UInt8) (t : ByteArray) (hx : bitB ⟨x.toArray⟩ = true) (ht : bitB t = true) : bitB ⟨(x ++ t.data.toList).toArray⟩ = true := by
  unfold bitB at *
  rw [List.all_eq_true] at *
  intro c hc
  rcases List.mem_append.1 (show c ∈ x ++ t.data.toList by simpa using hc) with h | h
  · exact hx c (by simpa using h)
  · exact ht c h
end Go.Proofs.YtgfejijaipggeaaDoor

/- The document's EncodeOf, digit by digit. -/
namespace Go.Proofs.YtgfejijaipggeaaDoor
open Go.RowKit

theorem txt_one (q j : Nat) : txt (bitsL q j) ++ (⟨#[49]⟩ : ByteArray) = txt (bitsL (2 * q + 1) (j + 1)) := by
  rw [show (⟨#[49]⟩ : ByteArray) = txt [49] from rfl, txt_join, bitsL, show (2 * q + 1) / 2 = q by omega, show (2 * q + 1) % 2 = 1 by omega]
  rfl
theorem txt_nought (q j : Nat) : txt (bitsL q j) ++ (⟨#[48]⟩ : ByteArray) = txt (bitsL (2 * q) (j + 1)) := by
  rw [show (⟨#[48]⟩ : ByteArray) = txt [48] from rfl, txt_join, bitsL, show (2 * q) / 2 = q by omega, show (2 * q) % 2 = 0 by omega]
  rfl
theorem txt_bits (d u : Nat) : ∀ i (hi : i < (txt (bitsL u d)).size), ((txt (bitsL u d))[i]'hi) = 48 ∨ ((txt (bitsL u d))[i]'hi) = 49 := fun i hi => by
  have h' : i < (bitsL u d).length := by rw [txt_size] at hi; exact hi
  exact bits_of d u _ (List.getElem_mem h')
set_option maxRecDepth 100000 in
set_option maxHeartbeats 8000000 in
theorem EncodeOf_loop (v0 v1 : Value) (L Wd D : Nat) (w : World)
    (hI : Calls Tryd.prog 27 #[v0, v1] w fun e w' => ∃ u1 u2, e = .returned (.tuple #[u1, u2]) ∧ RatioAt w' u1 (lowN D (L : Int)) (lowD D (L : Int)) ∧ RatioAt w' u2 (lowN D (Wd : Int)) (lowD D (Wd : Int)) ∧ Below w.heap.size w w')
    (hv0 : ∃ a l c, v0 = .slice a l c) (hv1 : ∃ a l c, v1 = .slice a l c) (hL : L < D) (hW : 0 < Wd) (hLW : L + Wd ≤ D) (hDR : D ≤ 2 ^ 144)
    (hVal : ∀ (T : ByteArray) (W : World), T.size ≤ 160 → (∀ i (hi : i < T.size), (T[i]'hi) = 48 ∨ (T[i]'hi) = 49) → Calls Tryd.prog 51 #[.string T] W fun e w' => ∃ v, e = .returned v ∧ RatioAt w' v (lowN (2 ^ T.size) (valT T T.size : Nat)) (lowD (2 ^ T.size) (valT T T.size : Nat)) ∧ Below W.heap.size W w') :
    Calls Tryd.prog 10 #[v0, v1] w fun e w' => ∃ J u, e = .returned (.string (txt (bitsL u J))) ∧ Txt L Wd D J u ∧ Below w.heap.size w w' := by
  obtain ⟨p0, m0, q0, rfl⟩ := hv0
  obtain ⟨p1, m1, q1, rfl⟩ := hv1
  have HNUM : Hid (L < D ∧ 0 < Wd ∧ L + Wd ≤ D ∧ D ≤ 2 ^ 144) := ⟨hL, hW, hLW, hDR⟩
  have HVAL := Hid.mk' hVal
  clear hL hW hLW hDR hVal
  go_enter Tryd.func10, Tryd.ntmps10
  go_wp2_with fail
  refine hI.mono ?_
  clear hI
  rintro e w1 ⟨u1, u2, rfl, hu1, hu2, hb1⟩
  obtain ⟨s1, a1, l1, c1, a1', l1', c1', rfl⟩ := hu1.sl
  obtain ⟨s2, a2, l2, c2, a2', l2', c2', rfl⟩ := hu2.sl
  have b : ∀ (V : World) (o : Obj), Below V.heap.size V (V.alloc o) := fun V o => (Below.refl _ _).alloc (Nat.le_refl _) _
  obtain ⟨W2, hW2⟩ : ∃ W2, (w1.alloc (.cells #[.bool s1, .slice a1 l1 c1, .slice a1' l1' c1'] 45)).alloc (.cells #[.bool s2, .slice a2 l2 c2, .slice a2' l2' c2'] 45) = W2 := ⟨_, rfl⟩
  have hb2 : Below w1.heap.size w1 W2 := by rw [← hW2]; exact below_chain (b _ _) (b _ _)
  have R5 : RBox W2 w1.heap.size s1 a1 l1 c1 a1' l1' c1' (lowN D (L : Int)) (lowD D (L : Int)) := by rw [← hW2]; exact (RBox.fresh hu1).later (b _ _)
  have R6 : RBox W2 (w1.heap.size + 1) s2 a2 l2 c2 a2' l2' c2' (lowN D (Wd : Int)) (lowD D (Wd : Int)) := by
    have h3 := RBox.fresh (hu2.later (b w1 (.cells #[.bool s1, .slice a1 l1 c1, .slice a1' l1' c1'] 45)))
    rw [show (w1.alloc (.cells #[.bool s1, .slice a1 l1 c1, .slice a1' l1' c1'] 45)).heap.size = w1.heap.size + 1 by simp] at h3
    rw [← hW2]; exact h3
  have hz2 : W2.heap.size = w1.heap.size + 1 + 1 := by rw [← hW2]; simp
  have R8 := RBox.fresh (hu1.later hb2)
  have hb3 : Below W2.heap.size W2 (W2.alloc (.cells #[.bool s1, .slice a1 l1 c1, .slice a1' l1' c1'] 45)) := b _ _
  have y0 := R5.c0
  have y1 := R5.c1
  have y2 := R5.c2
  have HR5 := Hid.mk' (R5.later hb3)
  have HR6 := Hid.mk' (R6.later hb3)
  have HR8 := Hid.mk' R8
  have HB := Hid.mk' (below_chain (below_chain hb1 hb2) hb3)
  have HB1 := Hid.mk' hb1.size
  have HW2 := Hid.mk' hW2
  have HNE : Hid (W2.heap.size ≠ w1.heap.size ∧ W2.heap.size ≠ w1.heap.size + 1) := by rw [hz2]; exact ⟨by omega, by omega⟩
  have HLT : Hid (w.heap.size ≤ W2.heap.size) := by have := HB1.out; show _ ≤ _; omega
  clear hu1 hu2 hb1 hb2 hb3 R5 R6 R8 b hW2 hz2
  go_upto_region 2 with fail
  rw [HW2.out]
  go_upto_region 4 with fail
  clear y0 y1 y2 HW2
  generalize W2.alloc (.cells #[.bool s1, .slice a1 l1 c1, .slice a1' l1' c1'] 45) = W3 at *
  generalize W2.heap.size = B8 at *
  generalize w1.heap.size = B5 at *
  have HRO2 : Hid (∀ W, Calls Tryd.prog 21 #[.int .i64 2, .int .i64 1] W fun e w' => ∃ r, e = .returned r ∧ RatioAt w' r 2 1 ∧ Below W.heap.size W w') := fun W => RatioOf_any 2 1 W (by decide) (by decide) (by decide) (by decide)
  have HRO1 : Hid (∀ W, Calls Tryd.prog 21 #[.int .i64 1, .int .i64 1] W fun e w' => ∃ r, e = .returned r ∧ RatioAt w' r 1 1 ∧ Below W.heap.size W w') := fun W => RatioOf_any 1 1 W (by decide) (by decide) (by decide) (by decide)
  have HR8' : Hid (RBox W3 B8 s1 a1 l1 c1 a1' l1' c1' (lowN D ((L * 2 ^ 0 % D : Nat) : Int)) (lowD D ((L * 2 ^ 0 % D : Nat) : Int))) := by rw [Nat.pow_zero, Nat.mul_one, Nat.mod_eq_of_lt HNUM.out.1]; exact HR8
  go_loopg [7] (2 * D - Wd) (fun gk t wr => ∃ (j : Nat) (s : Bool) (x : Option Addr) (lx cx : Nat) (x' : Option Addr) (lx' cx' : Nat), gk = 2 * D - Wd * 2 ^ j ∧ t = .string (txt (bitsL (L * 2 ^ j / D) j)) ∧ Hid (RBox wr B8 s x lx cx x' lx' cx' (lowN D ((L * 2 ^ j % D : Nat) : Int)) (lowD D ((L * 2 ^ j % D : Nat) : Int))) ∧ Hid (RBox wr B5 s1 a1 l1 c1 a1' l1' c1' (lowN D (L : Int)) (lowD D (L : Int))) ∧ Hid (RBox wr (B5 + 1) s2 a2 l2 c2 a2' l2' c2' (lowN D (Wd : Int)) (lowD D (Wd : Int))) ∧ Hid (Below w.heap.size w wr) ∧ Hid (∀ i, i < j → Wd * 2 ^ i < needN D (L * 2 ^ i % D)))
  case atStart => exact ⟨0, s1, a1, l1, c1, a1', l1', c1', by rw [Nat.pow_zero, Nat.mul_one], rfl, HR8', HR5, HR6, HB, fun i hi => by omega⟩
  case round =>
    clear HR8' HR8 HR5 HR6 HB
    obtain ⟨j, s, x, lx, cx, x', lx', cx', hgk, rfl, HR8, HR5, HR6, HB, HF⟩ := hrel
    have HGK := Hid.mk' hgk
    clear hgk
    have hD0 : 0 < D := by have := HNUM.out; omega
    have HDR : Hid (2 * D < 1000000 ^ 20) := Nat.lt_of_le_of_lt (Nat.mul_le_mul_left 2 HNUM.out.2.2.2) (by decide)
    have HRL : Hid (L * 2 ^ j % D < D) := Nat.mod_lt _ hD0
    have HNO := Hid.mk' (Nothing_any _ _ _ wr HR8.out.rat)
    have HDBL := Hid.mk' (fun (W : World) (u v : Value) hu hv => double_any u v (L * 2 ^ j % D) D W hu hv hD0 (Nat.le_of_lt HRL.out) (by have := HDR.out; omega))
    have HCMP := Hid.mk' (fun (W : World) (u v : Value) hu hv => cmp1_any u v (L * 2 ^ j % D * 2) D W hu hv hD0 (by have := HRL.out; omega) HDR.out)
    have HJ : Hid (j ≤ 145) := by
      show _ ≤ _
      rcases Nat.eq_zero_or_pos j with h0 | h0
      · omega
      · have h1 := HF.out (j - 1) (by omega)
        have h2 := needN_le (D := D) (r := L * 2 ^ (j - 1) % D)
        have h3 : 1 * 2 ^ (j - 1) ≤ Wd * 2 ^ (j - 1) := Nat.mul_le_mul_right _ HNUM.out.2.1
        have h4 : 2 ^ (j - 1) < 2 ^ 145 := by have := HNUM.out.2.2.2; rw [Nat.pow_succ]; omega
        have := (Nat.pow_lt_pow_iff_right (by decide)).1 h4
        omega
    have hTs : (txt (bitsL (L * 2 ^ j / D) j)).size = j := by rw [txt_size, bitsL_length]
    have hTI : ((txt (bitsL (L * 2 ^ j / D) j)).size : Int) = (j : Int) := by rw [hTs]
    have y0 := HR8.out.c0
    have y1 := HR8.out.c1
    have y2 := HR8.out.c2
    by_cases hr : L * 2 ^ j % D = 0
    · have hnz : decide (lowN D ((L * 2 ^ j % D : Nat) : Int) = 0) = true := decide_eq_true ((lowN_zero hD0 _).2 hr)
      rw [hnz] at HNO
      clear hnz
      have HFT : Hid (∀ W u v, RatioAt W u (lowN D (L : Int)) (lowD D (L : Int)) → RatioAt W v (lowN D (Wd : Int)) (lowD D (Wd : Int)) → Calls Tryd.prog 30 #[.string (txt (bitsL (L * 2 ^ j / D) j)), u, v] W fun e w' => e = .returned (.bool (decide (needN D (L * 2 ^ j % D) ≤ Wd * 2 ^ j))) ∧ Below W.heap.size W w') := fun W u v hu hv => by
        have hvt : valT (txt (bitsL (L * 2 ^ j / D) j)) j = L * 2 ^ j / D := valT_bits j _ (quo_lt HNUM.out.1)
        have h3 := Fits_any (txt (bitsL (L * 2 ^ j / D) j)) u v L Wd D W (fun W => HVAL.out _ W (by rw [hTs]; have := HJ.out; omega) (txt_bits j _)) hu hv (by rw [hTs]; have := HJ.out; omega) hD0 HNUM.out.2.2.1 (by have := HDR.out; omega) (by rw [hTs, hvt]; exact (fit_even (W := Wd) hr).2)
        rw [hTs, hvt, decide_eq_decide.2 (fit_even (W := Wd) hr).1] at h3
        exact h3
      have HTS := Hid.mk' hTs
      have hTN : (((txt (bitsL (L * 2 ^ j / D) j)).size : Int) == ((txt (bitsL (L * 2 ^ j / D) j)).size : Int)) = true := by rw [beq_iff_eq]
      have HR0 := Hid.mk' hr
      clear hTs hTI hr
      go_wp2_with fail
      refine HNO.out.mono ?_
      clear HNO
      rintro e wc ⟨rfl, hbc⟩
      have HR8 := Hid.mk' (HR8.out.later hbc)
      have HR5 := Hid.mk' (HR5.out.later hbc)
      have HR6 := Hid.mk' (HR6.out.later hbc)
      have HB := Hid.mk' (below_chain HB.out hbc)
      clear hbc y0 y1 y2
      have z0 := HR5.out.c0
      have z1 := HR5.out.c1
      have z2 := HR5.out.c2
      have z3 := HR6.out.c0
      have z4 := HR6.out.c1
      have z5 := HR6.out.c2
      by_cases hfit : needN D (L * 2 ^ j % D) ≤ Wd * 2 ^ j
      · rw [decide_eq_true hfit] at HFT
        have HTX : Hid (Txt L Wd D j (L * 2 ^ j / D)) := ⟨hfit, HF.out, by rw [if_pos HR0.out]⟩
        clear hfit
        go_wp2_with fail
        refine (HFT.out _ _ _ HR5.out.rat HR6.out.rat).mono ?_
        rintro e wf ⟨rfl, hbf⟩
        have HB := Hid.mk' (below_chain HB.out hbf)
        clear hbf z0 z1 z2 z3 z4 z5
        go_wp2_with fail
        go_ret
        exact ⟨j, _, rfl, HTX.out, HB.out⟩
      · rw [decide_eq_false hfit] at HFT
        have HLT2 := Hid.mk' (Nat.lt_of_not_le hfit)
        clear hfit
        go_wp2_with fail
        refine (HFT.out _ _ _ HR5.out.rat HR6.out.rat).mono ?_
        rintro e wf ⟨rfl, hbf⟩
        have HR8 := Hid.mk' (HR8.out.later hbf)
        have HR5 := Hid.mk' (HR5.out.later hbf)
        have HR6 := Hid.mk' (HR6.out.later hbf)
        have HB := Hid.mk' (below_chain HB.out hbf)
        clear hbf z0 z1 z2 z3 z4 z5
        have HKS : Hid (∀ W, Below wf.heap.size wf W → (W.cell? ⟨B8, 0, none⟩ = some (.bool s) ∧ W.cell? ⟨B8, 1, none⟩ = some (.slice x lx cx) ∧ W.cell? ⟨B8, 2, none⟩ = some (.slice x' lx' cx'))) := fun W hb => by have q := HR8.out.later hb; exact ⟨q.c0, q.c1, q.c2⟩
        have HLW := Hid.mk' (fun (W : World) (hb : Below wf.heap.size wf W) => HR8.out.later hb)
        have hcur : Below wf.heap.size wf wf.drew := (Below.refl _ _).drew
        go_wp2_with fail
        refine region_but_last (n := 3) (S := fun W => (W.cell? ⟨B8, 0, none⟩ = some (.bool s) ∧ W.cell? ⟨B8, 1, none⟩ = some (.slice x lx cx) ∧ W.cell? ⟨B8, 2, none⟩ = some (.slice x' lx' cx'))) (by kernel_rfl) (by kernel_rfl) (by kernel_rfl) (HKS.out _ hcur) (fun hHeld => ?_)
        refine wpAnyH_take (i := 0) (v := ?v0awf) rfl (by kernel_rfl) (by kernel_rfl) (by kernel_rfl) (fun _ _ _ h => h) (Or.inl ⟨by rfl, ?hy0awf⟩) (by assumption) ?rest0awf
        case hy0awf => (intro w hSw; (try dsimp only at hSw); go_simp <;> (try with_reducible rfl))
        simp only [Act.put]
        refine wpAnyH_ready (rs := [1]) (by kernel_rfl) (by simp) ?_
        refine AllReadyH.cons rfl (fun K hK => ?_) AllReadyH.nil
        go_simp
        refine (HRO2.out _).mono ?_
        rintro e y5 ⟨r1, rfl, hr1, hb5⟩
        have hcur := below_chain hcur hb5
        have HX1 := Hid.mk' hr1
        clear hr1
        go_wp2_with fail
        refine hK.out _ _ ?_ (fun hHeld => ?_)
        · exact HKS.out _ hcur
        clear hK K
        refine wpAnyH_ready (rs := [2]) (by kernel_rfl) (by simp) ?_
        refine AllReadyH.cons rfl (fun K hK => ?_) AllReadyH.nil
        go_simp
        refine (HDBL.out _ _ _ (HLW.out _ hcur).rat HX1.out).mono ?_
        rintro e y6 ⟨r2, rfl, hr2, hb6⟩
        have hcur := below_chain hcur hb6
        have HX2 := Hid.mk' hr2
        obtain ⟨t2, p2, m2, q2, p2', m2', q2', hr2e⟩ := hr2.sl
        subst hr2e
        clear hr2
        have hL := HLW.out _ hcur
        have fz0 := hL.fz 0 (by decide)
        have fz1 := hL.fz 1 (by decide)
        have fz2 := hL.fz 2 (by decide)
        have k0 := hL.c0
        have k1 := hL.c1
        have k2 := hL.c2
        obtain ⟨⟨g0, g1⟩, ⟨g2, g3⟩, g4⟩ := put_three' (.bool t2) (.slice p2 m2 q2) (.slice p2' m2' q2') k0 k1 k2
        have HSET := Hid.mk' (hL.put HX2.out)
        have HS5 := Hid.mk' ((HR5.out.later hcur).aside hL HNE.out.1 (.bool t2) (.slice p2 m2 q2) (.slice p2' m2' q2'))
        have HS6 := Hid.mk' ((HR6.out.later hcur).aside hL HNE.out.2 (.bool t2) (.slice p2 m2 q2) (.slice p2' m2' q2'))
        clear hL
        go_wp2_with fail
        refine hK.out _ _ ?_ (fun hHeld => ?_)
        · exact HKS.out _ hcur
        clear hK K
        refine wpAnyH_done (by kernel_rfl) ?_ _
        refine ahead_last rfl (fun K hK => ?_)
        go_simp
        refine hK _ _ ?_
        clear hK K
        unfold put3 at HSET HS5 HS6
        have HBN : Hid (Below w.heap.size w (((y6.setCell ⟨B8, 0, none⟩ (.bool t2)).setCell ⟨B8, 1, none⟩ (.slice p2 m2 q2)).setCell ⟨B8, 2, none⟩ (.slice p2' m2' q2'))) := (((below_chain HB.out hcur).setCell HLT.out _).setCell HLT.out _).setCell HLT.out _
        generalize ((y6.setCell ⟨B8, 0, none⟩ (.bool t2)).setCell ⟨B8, 1, none⟩ (.slice p2 m2 q2)).setCell ⟨B8, 2, none⟩ (.slice p2' m2' q2') = Wn at *
        clear HX1 HX2 hHeld g0 g1 g2 g3 g4 k0 k1 k2 fz0 fz1 fz2 hcur HKS HLW hb5 hb6 HR8 HR5 HR6 HB
        have HR8 := HSET
        have HR5 := HS5
        have HR6 := HS6
        have HB := HBN
        clear HSET HS5 HS6 HBN
        have HKS : Hid (∀ W, Below Wn.heap.size Wn W → (W.cell? ⟨B8, 0, none⟩ = some (.bool t2) ∧ W.cell? ⟨B8, 1, none⟩ = some (.slice p2 m2 q2) ∧ W.cell? ⟨B8, 2, none⟩ = some (.slice p2' m2' q2'))) := fun W hb => by have q := HR8.out.later hb; exact ⟨q.c0, q.c1, q.c2⟩
        have HC1 := Hid.mk' (fun (W : World) (v : Value) (hb : Below Wn.heap.size Wn W) (hv : RatioAt W v 1 1) => HCMP.out W _ v (HR8.out.later hb).rat hv)
        have hcur0 : Below Wn.heap.size Wn Wn := Below.refl _ _
        have hcur : Below Wn.heap.size Wn Wn.drew := (Below.refl _ _).drew
        go_wp2_with fail
        go_region_held3 (fun W => (W.cell? ⟨B8, 0, none⟩ = some (.bool t2) ∧ W.cell? ⟨B8, 1, none⟩ = some (.slice p2 m2 q2) ∧ W.cell? ⟨B8, 2, none⟩ = some (.slice p2' m2' q2')))
          (first | exact HKS.out _ hcur0 | exact HKS.out _ hcur | exact HKS.out _ hbx1 | exact HKS.out _ hbx2)
          (first
            | (go_at_call 24; refine (HC1.out _ _ hbx1 HX1.out).mono ?_; rintro e x2 ⟨c, rfl, hc, hb2⟩; have hbx2 := below_chain hbx1 hb2; have HCC := Hid.mk' hc; clear hc hb2)
            | (go_at_call 21; refine (HRO1.out _).mono ?_; rintro e x1 ⟨r1, rfl, hr1, hb1⟩; have hbx1 := below_chain hcur hb1; have HX1 := Hid.mk' hr1; clear hr1 hb1))
        have HR8 := Hid.mk' (HR8.out.later hbx2)
        have HR5 := Hid.mk' (HR5.out.later hbx2)
        have HR6 := Hid.mk' (HR6.out.later hbx2)
        have HB := Hid.mk' (below_chain HB.out hbx2)
        clear hbx1 hbx2 hcur hcur0 HX1 HC1 HKS
        have hTs := HTS.out
        have hJ9 : j ≤ 145 := HJ.out
        by_cases hge : D ≤ L * 2 ^ j % D * 2
        · have hc0 : 0 ≤ c := HCC.out.2 hge
          have HMS := Hid.mk' ((mod_step (L := L) (D := D) (j := j) hD0).1 hge)
          have HLS := Hid.mk' (fun (W : World) (u v : Value) hu hv => less1_any u v (L * 2 ^ j % D * 2) D W hu hv hD0 hge (by have := HRL.out; omega) HDR.out)
          clear hge
          have HKS : Hid (∀ W, Below x2.heap.size x2 W → (W.cell? ⟨B8, 0, none⟩ = some (.bool t2) ∧ W.cell? ⟨B8, 1, none⟩ = some (.slice p2 m2 q2) ∧ W.cell? ⟨B8, 2, none⟩ = some (.slice p2' m2' q2'))) := fun W hb => by have q := HR8.out.later hb; exact ⟨q.c0, q.c1, q.c2⟩
          have HLW := Hid.mk' (fun (W : World) (hb : Below x2.heap.size x2 W) => HR8.out.later hb)
          have hcur : Below x2.heap.size x2 x2.drew := (Below.refl _ _).drew
          go_wp2_with fail
          refine region_but_last (n := 3) (S := fun W => (W.cell? ⟨B8, 0, none⟩ = some (.bool t2) ∧ W.cell? ⟨B8, 1, none⟩ = some (.slice p2 m2 q2) ∧ W.cell? ⟨B8, 2, none⟩ = some (.slice p2' m2' q2'))) (by kernel_rfl) (by kernel_rfl) (by kernel_rfl) (HKS.out _ hcur) (fun hHeld => ?_)
          refine wpAnyH_take (i := 0) (v := ?v0bwf) rfl (by kernel_rfl) (by kernel_rfl) (by kernel_rfl) (fun _ _ _ h => h) (Or.inl ⟨by rfl, ?hy0bwf⟩) (by assumption) ?rest0bwf
          case hy0bwf => (intro w hSw; (try dsimp only at hSw); go_simp <;> (try with_reducible rfl))
          simp only [Act.put]
          refine wpAnyH_ready (rs := [1]) (by kernel_rfl) (by simp) ?_
          refine AllReadyH.cons rfl (fun K hK => ?_) AllReadyH.nil
          go_simp
          refine (HRO1.out _).mono ?_
          rintro e y5 ⟨r1, rfl, hr1, hb5⟩
          have hcur := below_chain hcur hb5
          have HX1 := Hid.mk' hr1
          clear hr1
          go_wp2_with fail
          refine hK.out _ _ ?_ (fun hHeld => ?_)
          · exact HKS.out _ hcur
          clear hK K
          refine wpAnyH_ready (rs := [2]) (by kernel_rfl) (by simp) ?_
          refine AllReadyH.cons rfl (fun K hK => ?_) AllReadyH.nil
          go_simp
          refine (HLS.out _ _ _ (HLW.out _ hcur).rat HX1.out).mono ?_
          rintro e y6 ⟨r2, rfl, hr2, hb6⟩
          have hcur := below_chain hcur hb6
          have HX2 := Hid.mk' hr2
          obtain ⟨t3, p3, m3, q3, p3', m3', q3', hr2e⟩ := hr2.sl
          subst hr2e
          clear hr2
          have hL := HLW.out _ hcur
          have fz0 := hL.fz 0 (by decide)
          have fz1 := hL.fz 1 (by decide)
          have fz2 := hL.fz 2 (by decide)
          have k0 := hL.c0
          have k1 := hL.c1
          have k2 := hL.c2
          obtain ⟨⟨g0, g1⟩, ⟨g2, g3⟩, g4⟩ := put_three' (.bool t3) (.slice p3 m3 q3) (.slice p3' m3' q3') k0 k1 k2
          have HSET := Hid.mk' (hL.put HX2.out)
          have HS5 := Hid.mk' ((HR5.out.later hcur).aside hL HNE.out.1 (.bool t3) (.slice p3 m3 q3) (.slice p3' m3' q3'))
          have HS6 := Hid.mk' ((HR6.out.later hcur).aside hL HNE.out.2 (.bool t3) (.slice p3 m3 q3) (.slice p3' m3' q3'))
          clear hL
          go_wp2_with fail
          refine hK.out _ _ ?_ (fun hHeld => ?_)
          · exact HKS.out _ hcur
          clear hK K
          refine wpAnyH_done (by kernel_rfl) ?_ _
          refine ahead_last rfl (fun K hK => ?_)
          go_simp
          refine hK _ _ ?_
          clear hK K
          unfold put3 at HSET HS5 HS6
          have HBN : Hid (Below w.heap.size w (((y6.setCell ⟨B8, 0, none⟩ (.bool t3)).setCell ⟨B8, 1, none⟩ (.slice p3 m3 q3)).setCell ⟨B8, 2, none⟩ (.slice p3' m3' q3'))) := (((below_chain HB.out hcur).setCell HLT.out _).setCell HLT.out _).setCell HLT.out _
          generalize ((y6.setCell ⟨B8, 0, none⟩ (.bool t3)).setCell ⟨B8, 1, none⟩ (.slice p3 m3 q3)).setCell ⟨B8, 2, none⟩ (.slice p3' m3' q3') = Wm at *
          clear HX1 HX2 hHeld g0 g1 g2 g3 g4 k0 k1 k2 fz0 fz1 fz2 hcur HKS HLW hb5 hb6 HR8 HR5 HR6 HB
          have HR8 := HSET
          have HR5 := HS5
          have HR6 := HS6
          have HB := HBN
          clear HSET HS5 HS6 HBN
          go_wp2_with fail
          go_roundg (2 * D - Wd * 2 ^ (j + 1))
          case measure => have h1 := HGK.out; have h2 := HLT2.out; have h3 := HNUM.out; have h4 : 1 * 2 ^ j ≤ Wd * 2 ^ j := Nat.mul_le_mul_right _ h3.2.1; have h5 := Nat.two_pow_pos j; have h6 := needN_le (D := D) (r := L * 2 ^ j % D); rw [h1, Nat.pow_succ, ← Nat.mul_assoc]; omega
          case rel =>
            refine ⟨j + 1, t3, p3, m3, q3, p3', m3', q3', rfl, ?_, ?_, HR5, HR6, HB, fun i hi => ?_⟩
            · rw [HMS.out.2, txt_one]
            · rw [HMS.out.1]; exact HR8
            · rcases Nat.lt_or_ge i j with h | h
              · exact HF.out i h
              · obtain rfl : i = j := by omega
                exact HLT2.out
        · have hc0 : ¬ 0 ≤ c := fun h => hge (HCC.out.1 h)
          have hc1 : c < 0 := by omega
          have HMS := Hid.mk' ((mod_step (L := L) (D := D) (j := j) hD0).2 (by omega))
          clear hge hc0
          go_wp2_with fail
          go_roundg (2 * D - Wd * 2 ^ (j + 1))
          case measure => have h1 := HGK.out; have h2 := HLT2.out; have h3 := HNUM.out; have h4 : 1 * 2 ^ j ≤ Wd * 2 ^ j := Nat.mul_le_mul_right _ h3.2.1; have h5 := Nat.two_pow_pos j; have h6 := needN_le (D := D) (r := L * 2 ^ j % D); rw [h1, Nat.pow_succ, ← Nat.mul_assoc]; omega
          case rel =>
            refine ⟨j + 1, t2, p2, m2, q2, p2', m2', q2', rfl, ?_, ?_, HR5, HR6, HB, fun i hi => ?_⟩
            · rw [HMS.out.2, txt_nought]
            · rw [HMS.out.1]; exact HR8
            · rcases Nat.lt_or_ge i j with h | h
              · exact HF.out i h
              · obtain rfl : i = j := by omega
                exact HLT2.out
    · have hnz : decide (lowN D ((L * 2 ^ j % D : Nat) : Int) = 0) = false := decide_eq_false (fun h => hr ((lowN_zero hD0 _).1 h))
      rw [hnz] at HNO
      clear hnz
      by_cases hq : L * 2 ^ j / D + 1 < 2 ^ j
      · have hp := bitsL_raise j _ hq
        obtain ⟨pre, t9, hp1, hp2⟩ := hp
        have hjl : pre.length + 1 + t9 = j := by
          have := congrArg List.length hp1
          rw [bitsL_length] at this
          simp at this
          omega
        have HNX : Hid (∀ W, Calls Tryd.prog 29 #[.string (txt (bitsL (L * 2 ^ j / D) j))] W fun e w' => e = .returned (.string (txt (bitsL (L * 2 ^ j / D + 1) j))) ∧ w' = W) := fun W => by rw [hp1, hp2]; exact next_mid pre t9 W (by have := HJ.out; omega)
        have hT2 : (txt (bitsL (L * 2 ^ j / D + 1) j)).size = j := by rw [txt_size, bitsL_length]
        have HFT : Hid (∀ W u v, RatioAt W u (lowN D (L : Int)) (lowD D (L : Int)) → RatioAt W v (lowN D (Wd : Int)) (lowD D (Wd : Int)) → Calls Tryd.prog 30 #[.string (txt (bitsL (L * 2 ^ j / D + 1) j)), u, v] W fun e w' => e = .returned (.bool (decide (needN D (L * 2 ^ j % D) ≤ Wd * 2 ^ j))) ∧ Below W.heap.size W w') := fun W u v hu hv => by
          have hvt : valT (txt (bitsL (L * 2 ^ j / D + 1) j)) j = L * 2 ^ j / D + 1 := valT_bits j _ hq
          have h3 := Fits_any (txt (bitsL (L * 2 ^ j / D + 1) j)) u v L Wd D W (fun W => HVAL.out _ W (by rw [hT2]; have := HJ.out; omega) (txt_bits j _)) hu hv (by rw [hT2]; have := HJ.out; omega) hD0 HNUM.out.2.2.1 (by have := HDR.out; omega) (by rw [hT2, hvt]; exact (fit_odd (W := Wd) hD0 hr).2)
          rw [hT2, hvt, decide_eq_decide.2 (fit_odd (W := Wd) hD0 hr).1] at h3
          exact h3
        have HTS := Hid.mk' hTs
        have hTN : (((txt (bitsL (L * 2 ^ j / D + 1) j)).size : Int) == ((txt (bitsL (L * 2 ^ j / D) j)).size : Int)) = true := by rw [beq_iff_eq, hT2, hTs]
        have HR0 := Hid.mk' hr
        clear hTs hTI hT2 hr hp1 hp2 hjl hq
        go_wp2_with fail
        refine HNO.out.mono ?_
        clear HNO
        rintro e wc ⟨rfl, hbc⟩
        have HR8 := Hid.mk' (HR8.out.later hbc)
        have HR5 := Hid.mk' (HR5.out.later hbc)
        have HR6 := Hid.mk' (HR6.out.later hbc)
        have HB := Hid.mk' (below_chain HB.out hbc)
        clear hbc y0 y1 y2
        go_wp2_with fail
        refine (HNX.out _).mono ?_
        rintro e w5 ⟨rfl, hw5⟩
        rw [hw5]
        clear hw5 w5
        have z0 := HR5.out.c0
        have z1 := HR5.out.c1
        have z2 := HR5.out.c2
        have z3 := HR6.out.c0
        have z4 := HR6.out.c1
        have z5 := HR6.out.c2
        by_cases hfit : needN D (L * 2 ^ j % D) ≤ Wd * 2 ^ j
        · rw [decide_eq_true hfit] at HFT
          have HTX : Hid (Txt L Wd D j (L * 2 ^ j / D + 1)) := ⟨hfit, HF.out, by rw [if_neg HR0.out]⟩
          clear hfit
          go_wp2_with fail
          refine (HFT.out _ _ _ HR5.out.rat HR6.out.rat).mono ?_
          rintro e wf ⟨rfl, hbf⟩
          have HB := Hid.mk' (below_chain HB.out hbf)
          clear hbf z0 z1 z2 z3 z4 z5
          go_wp2_with fail
          go_ret
          exact ⟨j, _, rfl, HTX.out, HB.out⟩
        · rw [decide_eq_false hfit] at HFT
          have HLT2 := Hid.mk' (Nat.lt_of_not_le hfit)
          clear hfit
          go_wp2_with fail
          refine (HFT.out _ _ _ HR5.out.rat HR6.out.rat).mono ?_
          rintro e wf ⟨rfl, hbf⟩
          have HR8 := Hid.mk' (HR8.out.later hbf)
          have HR5 := Hid.mk' (HR5.out.later hbf)
          have HR6 := Hid.mk' (HR6.out.later hbf)
          have HB := Hid.mk' (below_chain HB.out hbf)
          clear hbf z0 z1 z2 z3 z4 z5
          have HKS : Hid (∀ W, Below wf.heap.size wf W → (W.cell? ⟨B8, 0, none⟩ = some (.bool s) ∧ W.cell? ⟨B8, 1, none⟩ = some (.slice x lx cx) ∧ W.cell? ⟨B8, 2, none⟩ = some (.slice x' lx' cx'))) := fun W hb => by have q := HR8.out.later hb; exact ⟨q.c0, q.c1, q.c2⟩
          have HLW := Hid.mk' (fun (W : World) (hb : Below wf.heap.size wf W) => HR8.out.later hb)
          have hcur : Below wf.heap.size wf wf.drew := (Below.refl _ _).drew
          go_wp2_with fail
          refine region_but_last (n := 3) (S := fun W => (W.cell? ⟨B8, 0, none⟩ = some (.bool s) ∧ W.cell? ⟨B8, 1, none⟩ = some (.slice x lx cx) ∧ W.cell? ⟨B8, 2, none⟩ = some (.slice x' lx' cx'))) (by kernel_rfl) (by kernel_rfl) (by kernel_rfl) (HKS.out _ hcur) (fun hHeld => ?_)
          refine wpAnyH_take (i := 0) (v := ?v0awg) rfl (by kernel_rfl) (by kernel_rfl) (by kernel_rfl) (fun _ _ _ h => h) (Or.inl ⟨by rfl, ?hy0awg⟩) (by assumption) ?rest0awg
          case hy0awg => (intro w hSw; (try dsimp only at hSw); go_simp <;> (try with_reducible rfl))
          simp only [Act.put]
          refine wpAnyH_ready (rs := [1]) (by kernel_rfl) (by simp) ?_
          refine AllReadyH.cons rfl (fun K hK => ?_) AllReadyH.nil
          go_simp
          refine (HRO2.out _).mono ?_
          rintro e y5 ⟨r1, rfl, hr1, hb5⟩
          have hcur := below_chain hcur hb5
          have HX1 := Hid.mk' hr1
          clear hr1
          go_wp2_with fail
          refine hK.out _ _ ?_ (fun hHeld => ?_)
          · exact HKS.out _ hcur
          clear hK K
          refine wpAnyH_ready (rs := [2]) (by kernel_rfl) (by simp) ?_
          refine AllReadyH.cons rfl (fun K hK => ?_) AllReadyH.nil
          go_simp
          refine (HDBL.out _ _ _ (HLW.out _ hcur).rat HX1.out).mono ?_
          rintro e y6 ⟨r2, rfl, hr2, hb6⟩
          have hcur := below_chain hcur hb6
          have HX2 := Hid.mk' hr2
          obtain ⟨t2, p2, m2, q2, p2', m2', q2', hr2e⟩ := hr2.sl
          subst hr2e
          clear hr2
          have hL := HLW.out _ hcur
          have fz0 := hL.fz 0 (by decide)
          have fz1 := hL.fz 1 (by decide)
          have fz2 := hL.fz 2 (by decide)
          have k0 := hL.c0
          have k1 := hL.c1
          have k2 := hL.c2
          obtain ⟨⟨g0, g1⟩, ⟨g2, g3⟩, g4⟩ := put_three' (.bool t2) (.slice p2 m2 q2) (.slice p2' m2' q2') k0 k1 k2
          have HSET := Hid.mk' (hL.put HX2.out)
          have HS5 := Hid.mk' ((HR5.out.later hcur).aside hL HNE.out.1 (.bool t2) (.slice p2 m2 q2) (.slice p2' m2' q2'))
          have HS6 := Hid.mk' ((HR6.out.later hcur).aside hL HNE.out.2 (.bool t2) (.slice p2 m2 q2) (.slice p2' m2' q2'))
          clear hL
          go_wp2_with fail
          refine hK.out _ _ ?_ (fun hHeld => ?_)
          · exact HKS.out _ hcur
          clear hK K
          refine wpAnyH_done (by kernel_rfl) ?_ _
          refine ahead_last rfl (fun K hK => ?_)
          go_simp
          refine hK _ _ ?_
          clear hK K
          unfold put3 at HSET HS5 HS6
          have HBN : Hid (Below w.heap.size w (((y6.setCell ⟨B8, 0, none⟩ (.bool t2)).setCell ⟨B8, 1, none⟩ (.slice p2 m2 q2)).setCell ⟨B8, 2, none⟩ (.slice p2' m2' q2'))) := (((below_chain HB.out hcur).setCell HLT.out _).setCell HLT.out _).setCell HLT.out _
          generalize ((y6.setCell ⟨B8, 0, none⟩ (.bool t2)).setCell ⟨B8, 1, none⟩ (.slice p2 m2 q2)).setCell ⟨B8, 2, none⟩ (.slice p2' m2' q2') = Wn at *
          clear HX1 HX2 hHeld g0 g1 g2 g3 g4 k0 k1 k2 fz0 fz1 fz2 hcur HKS HLW hb5 hb6 HR8 HR5 HR6 HB
          have HR8 := HSET
          have HR5 := HS5
          have HR6 := HS6
          have HB := HBN
          clear HSET HS5 HS6 HBN
          have HKS : Hid (∀ W, Below Wn.heap.size Wn W → (W.cell? ⟨B8, 0, none⟩ = some (.bool t2) ∧ W.cell? ⟨B8, 1, none⟩ = some (.slice p2 m2 q2) ∧ W.cell? ⟨B8, 2, none⟩ = some (.slice p2' m2' q2'))) := fun W hb => by have q := HR8.out.later hb; exact ⟨q.c0, q.c1, q.c2⟩
          have HC1 := Hid.mk' (fun (W : World) (v : Value) (hb : Below Wn.heap.size Wn W) (hv : RatioAt W v 1 1) => HCMP.out W _ v (HR8.out.later hb).rat hv)
          have hcur0 : Below Wn.heap.size Wn Wn := Below.refl _ _
          have hcur : Below Wn.heap.size Wn Wn.drew := (Below.refl _ _).drew
          go_wp2_with fail
          go_region_held3 (fun W => (W.cell? ⟨B8, 0, none⟩ = some (.bool t2) ∧ W.cell? ⟨B8, 1, none⟩ = some (.slice p2 m2 q2) ∧ W.cell? ⟨B8, 2, none⟩ = some (.slice p2' m2' q2')))
            (first | exact HKS.out _ hcur0 | exact HKS.out _ hcur | exact HKS.out _ hbx1 | exact HKS.out _ hbx2)
            (first
              | (go_at_call 24; refine (HC1.out _ _ hbx1 HX1.out).mono ?_; rintro e x2 ⟨c, rfl, hc, hb2⟩; have hbx2 := below_chain hbx1 hb2; have HCC := Hid.mk' hc; clear hc hb2)
              | (go_at_call 21; refine (HRO1.out _).mono ?_; rintro e x1 ⟨r1, rfl, hr1, hb1⟩; have hbx1 := below_chain hcur hb1; have HX1 := Hid.mk' hr1; clear hr1 hb1))
          have HR8 := Hid.mk' (HR8.out.later hbx2)
          have HR5 := Hid.mk' (HR5.out.later hbx2)
          have HR6 := Hid.mk' (HR6.out.later hbx2)
          have HB := Hid.mk' (below_chain HB.out hbx2)
          clear hbx1 hbx2 hcur hcur0 HX1 HC1 HKS
          have hTs := HTS.out
          have hJ9 : j ≤ 145 := HJ.out
          by_cases hge : D ≤ L * 2 ^ j % D * 2
          · have hc0 : 0 ≤ c := HCC.out.2 hge
            have HMS := Hid.mk' ((mod_step (L := L) (D := D) (j := j) hD0).1 hge)
            have HLS := Hid.mk' (fun (W : World) (u v : Value) hu hv => less1_any u v (L * 2 ^ j % D * 2) D W hu hv hD0 hge (by have := HRL.out; omega) HDR.out)
            clear hge
            have HKS : Hid (∀ W, Below x2.heap.size x2 W → (W.cell? ⟨B8, 0, none⟩ = some (.bool t2) ∧ W.cell? ⟨B8, 1, none⟩ = some (.slice p2 m2 q2) ∧ W.cell? ⟨B8, 2, none⟩ = some (.slice p2' m2' q2'))) := fun W hb => by have q := HR8.out.later hb; exact ⟨q.c0, q.c1, q.c2⟩
            have HLW := Hid.mk' (fun (W : World) (hb : Below x2.heap.size x2 W) => HR8.out.later hb)
            have hcur : Below x2.heap.size x2 x2.drew := (Below.refl _ _).drew
            go_wp2_with fail
            refine region_but_last (n := 3) (S := fun W => (W.cell? ⟨B8, 0, none⟩ = some (.bool t2) ∧ W.cell? ⟨B8, 1, none⟩ = some (.slice p2 m2 q2) ∧ W.cell? ⟨B8, 2, none⟩ = some (.slice p2' m2' q2'))) (by kernel_rfl) (by kernel_rfl) (by kernel_rfl) (HKS.out _ hcur) (fun hHeld => ?_)
            refine wpAnyH_take (i := 0) (v := ?v0bwg) rfl (by kernel_rfl) (by kernel_rfl) (by kernel_rfl) (fun _ _ _ h => h) (Or.inl ⟨by rfl, ?hy0bwg⟩) (by assumption) ?rest0bwg
            case hy0bwg => (intro w hSw; (try dsimp only at hSw); go_simp <;> (try with_reducible rfl))
            simp only [Act.put]
            refine wpAnyH_ready (rs := [1]) (by kernel_rfl) (by simp) ?_
            refine AllReadyH.cons rfl (fun K hK => ?_) AllReadyH.nil
            go_simp
            refine (HRO1.out _).mono ?_
            rintro e y5 ⟨r1, rfl, hr1, hb5⟩
            have hcur := below_chain hcur hb5
            have HX1 := Hid.mk' hr1
            clear hr1
            go_wp2_with fail
            refine hK.out _ _ ?_ (fun hHeld => ?_)
            · exact HKS.out _ hcur
            clear hK K
            refine wpAnyH_ready (rs := [2]) (by kernel_rfl) (by simp) ?_
            refine AllReadyH.cons rfl (fun K hK => ?_) AllReadyH.nil
            go_simp
            refine (HLS.out _ _ _ (HLW.out _ hcur).rat HX1.out).mono ?_
            rintro e y6 ⟨r2, rfl, hr2, hb6⟩
            have hcur := below_chain hcur hb6
            have HX2 := Hid.mk' hr2
            obtain ⟨t3, p3, m3, q3, p3', m3', q3', hr2e⟩ := hr2.sl
            subst hr2e
            clear hr2
            have hL := HLW.out _ hcur
            have fz0 := hL.fz 0 (by decide)
            have fz1 := hL.fz 1 (by decide)
            have fz2 := hL.fz 2 (by decide)
            have k0 := hL.c0
            have k1 := hL.c1
            have k2 := hL.c2
            obtain ⟨⟨g0, g1⟩, ⟨g2, g3⟩, g4⟩ := put_three' (.bool t3) (.slice p3 m3 q3) (.slice p3' m3' q3') k0 k1 k2
            have HSET := Hid.mk' (hL.put HX2.out)
            have HS5 := Hid.mk' ((HR5.out.later hcur).aside hL HNE.out.1 (.bool t3) (.slice p3 m3 q3) (.slice p3' m3' q3'))
            have HS6 := Hid.mk' ((HR6.out.later hcur).aside hL HNE.out.2 (.bool t3) (.slice p3 m3 q3) (.slice p3' m3' q3'))
            clear hL
            go_wp2_with fail
            refine hK.out _ _ ?_ (fun hHeld => ?_)
            · exact HKS.out _ hcur
            clear hK K
            refine wpAnyH_done (by kernel_rfl) ?_ _
            refine ahead_last rfl (fun K hK => ?_)
            go_simp
            refine hK _ _ ?_
            clear hK K
            unfold put3 at HSET HS5 HS6
            have HBN : Hid (Below w.heap.size w (((y6.setCell ⟨B8, 0, none⟩ (.bool t3)).setCell ⟨B8, 1, none⟩ (.slice p3 m3 q3)).setCell ⟨B8, 2, none⟩ (.slice p3' m3' q3'))) := (((below_chain HB.out hcur).setCell HLT.out _).setCell HLT.out _).setCell HLT.out _
            generalize ((y6.setCell ⟨B8, 0, none⟩ (.bool t3)).setCell ⟨B8, 1, none⟩ (.slice p3 m3 q3)).setCell ⟨B8, 2, none⟩ (.slice p3' m3' q3') = Wm at *
            clear HX1 HX2 hHeld g0 g1 g2 g3 g4 k0 k1 k2 fz0 fz1 fz2 hcur HKS HLW hb5 hb6 HR8 HR5 HR6 HB
            have HR8 := HSET
            have HR5 := HS5
            have HR6 := HS6
            have HB := HBN
            clear HSET HS5 HS6 HBN
            go_wp2_with fail
            go_roundg (2 * D - Wd * 2 ^ (j + 1))
            case measure => have h1 := HGK.out; have h2 := HLT2.out; have h3 := HNUM.out; have h4 : 1 * 2 ^ j ≤ Wd * 2 ^ j := Nat.mul_le_mul_right _ h3.2.1; have h5 := Nat.two_pow_pos j; have h6 := needN_le (D := D) (r := L * 2 ^ j % D); rw [h1, Nat.pow_succ, ← Nat.mul_assoc]; omega
            case rel =>
              refine ⟨j + 1, t3, p3, m3, q3, p3', m3', q3', rfl, ?_, ?_, HR5, HR6, HB, fun i hi => ?_⟩
              · rw [HMS.out.2, txt_one]
              · rw [HMS.out.1]; exact HR8
              · rcases Nat.lt_or_ge i j with h | h
                · exact HF.out i h
                · obtain rfl : i = j := by omega
                  exact HLT2.out
          · have hc0 : ¬ 0 ≤ c := fun h => hge (HCC.out.1 h)
            have hc1 : c < 0 := by omega
            have HMS := Hid.mk' ((mod_step (L := L) (D := D) (j := j) hD0).2 (by omega))
            clear hge hc0
            go_wp2_with fail
            go_roundg (2 * D - Wd * 2 ^ (j + 1))
            case measure => have h1 := HGK.out; have h2 := HLT2.out; have h3 := HNUM.out; have h4 : 1 * 2 ^ j ≤ Wd * 2 ^ j := Nat.mul_le_mul_right _ h3.2.1; have h5 := Nat.two_pow_pos j; have h6 := needN_le (D := D) (r := L * 2 ^ j % D); rw [h1, Nat.pow_succ, ← Nat.mul_assoc]; omega
            case rel =>
              refine ⟨j + 1, t2, p2, m2, q2, p2', m2', q2', rfl, ?_, ?_, HR5, HR6, HB, fun i hi => ?_⟩
              · rw [HMS.out.2, txt_nought]
              · rw [HMS.out.1]; exact HR8
              · rcases Nat.lt_or_ge i j with h | h
                · exact HF.out i h
                · obtain rfl : i = j := by omega
                  exact HLT2.out
      · have HLT2 := Hid.mk' (Nat.lt_of_not_le (fit_none (W := Wd) hD0 HNUM.out.2.2.1 hr hq))
        have HON := Hid.mk' (bitsL_ones j _ (quo_full HNUM.out.1 hq))
        have HNX : Hid (∀ W, Calls Tryd.prog 29 #[.string (txt (bitsL (L * 2 ^ j / D) j))] W fun e w' => ∃ t : ByteArray, e = .returned (.string t) ∧ t.size = j + 1 ∧ w' = W) := fun W => by rw [HON.out]; exact next_ones j W (by have := HJ.out; omega)
        clear hr hq HON
        go_wp2_with fail
        refine HNO.out.mono ?_
        clear HNO
        rintro e wc ⟨rfl, hbc⟩
        have HR8 := Hid.mk' (HR8.out.later hbc)
        have HR5 := Hid.mk' (HR5.out.later hbc)
        have HR6 := Hid.mk' (HR6.out.later hbc)
        have HB := Hid.mk' (below_chain HB.out hbc)
        clear hbc y0 y1 y2
        go_wp2_with fail
        refine (HNX.out _).mono ?_
        rintro e w5 ⟨t, rfl, ht5, hw5⟩
        rw [hw5]
        clear hw5 w5
        have hTN : ((t.size : Int) == ((txt (bitsL (L * 2 ^ j / D) j)).size : Int)) = false := by rw [beq_eq_false_iff_ne]; omega
        have HTS := Hid.mk' hTs
        clear ht5 hTs hTI
        have HKS : Hid (∀ W, Below wc.heap.size wc W → (W.cell? ⟨B8, 0, none⟩ = some (.bool s) ∧ W.cell? ⟨B8, 1, none⟩ = some (.slice x lx cx) ∧ W.cell? ⟨B8, 2, none⟩ = some (.slice x' lx' cx'))) := fun W hb => by have q := HR8.out.later hb; exact ⟨q.c0, q.c1, q.c2⟩
        have HLW := Hid.mk' (fun (W : World) (hb : Below wc.heap.size wc W) => HR8.out.later hb)
        have hcur : Below wc.heap.size wc wc.drew := (Below.refl _ _).drew
        go_wp2_with fail
        refine region_but_last (n := 3) (S := fun W => (W.cell? ⟨B8, 0, none⟩ = some (.bool s) ∧ W.cell? ⟨B8, 1, none⟩ = some (.slice x lx cx) ∧ W.cell? ⟨B8, 2, none⟩ = some (.slice x' lx' cx'))) (by kernel_rfl) (by kernel_rfl) (by kernel_rfl) (HKS.out _ hcur) (fun hHeld => ?_)
        refine wpAnyH_take (i := 0) (v := ?v0awc) rfl (by kernel_rfl) (by kernel_rfl) (by kernel_rfl) (fun _ _ _ h => h) (Or.inl ⟨by rfl, ?hy0awc⟩) (by assumption) ?rest0awc
        case hy0awc => (intro w hSw; (try dsimp only at hSw); go_simp <;> (try with_reducible rfl))
        simp only [Act.put]
        refine wpAnyH_ready (rs := [1]) (by kernel_rfl) (by simp) ?_
        refine AllReadyH.cons rfl (fun K hK => ?_) AllReadyH.nil
        go_simp
        refine (HRO2.out _).mono ?_
        rintro e y5 ⟨r1, rfl, hr1, hb5⟩
        have hcur := below_chain hcur hb5
        have HX1 := Hid.mk' hr1
        clear hr1
        go_wp2_with fail
        refine hK.out _ _ ?_ (fun hHeld => ?_)
        · exact HKS.out _ hcur
        clear hK K
        refine wpAnyH_ready (rs := [2]) (by kernel_rfl) (by simp) ?_
        refine AllReadyH.cons rfl (fun K hK => ?_) AllReadyH.nil
        go_simp
        refine (HDBL.out _ _ _ (HLW.out _ hcur).rat HX1.out).mono ?_
        rintro e y6 ⟨r2, rfl, hr2, hb6⟩
        have hcur := below_chain hcur hb6
        have HX2 := Hid.mk' hr2
        obtain ⟨t2, p2, m2, q2, p2', m2', q2', hr2e⟩ := hr2.sl
        subst hr2e
        clear hr2
        have hL := HLW.out _ hcur
        have fz0 := hL.fz 0 (by decide)
        have fz1 := hL.fz 1 (by decide)
        have fz2 := hL.fz 2 (by decide)
        have k0 := hL.c0
        have k1 := hL.c1
        have k2 := hL.c2
        obtain ⟨⟨g0, g1⟩, ⟨g2, g3⟩, g4⟩ := put_three' (.bool t2) (.slice p2 m2 q2) (.slice p2' m2' q2') k0 k1 k2
        have HSET := Hid.mk' (hL.put HX2.out)
        have HS5 := Hid.mk' ((HR5.out.later hcur).aside hL HNE.out.1 (.bool t2) (.slice p2 m2 q2) (.slice p2' m2' q2'))
        have HS6 := Hid.mk' ((HR6.out.later hcur).aside hL HNE.out.2 (.bool t2) (.slice p2 m2 q2) (.slice p2' m2' q2'))
        clear hL
        go_wp2_with fail
        refine hK.out _ _ ?_ (fun hHeld => ?_)
        · exact HKS.out _ hcur
        clear hK K
        refine wpAnyH_done (by kernel_rfl) ?_ _
        refine ahead_last rfl (fun K hK => ?_)
        go_simp
        refine hK _ _ ?_
        clear hK K
        unfold put3 at HSET HS5 HS6
        have HBN : Hid (Below w.heap.size w (((y6.setCell ⟨B8, 0, none⟩ (.bool t2)).setCell ⟨B8, 1, none⟩ (.slice p2 m2 q2)).setCell ⟨B8, 2, none⟩ (.slice p2' m2' q2'))) := (((below_chain HB.out hcur).setCell HLT.out _).setCell HLT.out _).setCell HLT.out _
        generalize ((y6.setCell ⟨B8, 0, none⟩ (.bool t2)).setCell ⟨B8, 1, none⟩ (.slice p2 m2 q2)).setCell ⟨B8, 2, none⟩ (.slice p2' m2' q2') = Wn at *
        clear HX1 HX2 hHeld g0 g1 g2 g3 g4 k0 k1 k2 fz0 fz1 fz2 hcur HKS HLW hb5 hb6 HR8 HR5 HR6 HB
        have HR8 := HSET
        have HR5 := HS5
        have HR6 := HS6
        have HB := HBN
        clear HSET HS5 HS6 HBN
        have HKS : Hid (∀ W, Below Wn.heap.size Wn W → (W.cell? ⟨B8, 0, none⟩ = some (.bool t2) ∧ W.cell? ⟨B8, 1, none⟩ = some (.slice p2 m2 q2) ∧ W.cell? ⟨B8, 2, none⟩ = some (.slice p2' m2' q2'))) := fun W hb => by have q := HR8.out.later hb; exact ⟨q.c0, q.c1, q.c2⟩
        have HC1 := Hid.mk' (fun (W : World) (v : Value) (hb : Below Wn.heap.size Wn W) (hv : RatioAt W v 1 1) => HCMP.out W _ v (HR8.out.later hb).rat hv)
        have hcur0 : Below Wn.heap.size Wn Wn := Below.refl _ _
        have hcur : Below Wn.heap.size Wn Wn.drew := (Below.refl _ _).drew
        go_wp2_with fail
        go_region_held3 (fun W => (W.cell? ⟨B8, 0, none⟩ = some (.bool t2) ∧ W.cell? ⟨B8, 1, none⟩ = some (.slice p2 m2 q2) ∧ W.cell? ⟨B8, 2, none⟩ = some (.slice p2' m2' q2')))
          (first | exact HKS.out _ hcur0 | exact HKS.out _ hcur | exact HKS.out _ hbx1 | exact HKS.out _ hbx2)
          (first
            | (go_at_call 24; refine (HC1.out _ _ hbx1 HX1.out).mono ?_; rintro e x2 ⟨c, rfl, hc, hb2⟩; have hbx2 := below_chain hbx1 hb2; have HCC := Hid.mk' hc; clear hc hb2)
            | (go_at_call 21; refine (HRO1.out _).mono ?_; rintro e x1 ⟨r1, rfl, hr1, hb1⟩; have hbx1 := below_chain hcur hb1; have HX1 := Hid.mk' hr1; clear hr1 hb1))
        have HR8 := Hid.mk' (HR8.out.later hbx2)
        have HR5 := Hid.mk' (HR5.out.later hbx2)
        have HR6 := Hid.mk' (HR6.out.later hbx2)
        have HB := Hid.mk' (below_chain HB.out hbx2)
        clear hbx1 hbx2 hcur hcur0 HX1 HC1 HKS
        have hTs := HTS.out
        have hJ9 : j ≤ 145 := HJ.out
        by_cases hge : D ≤ L * 2 ^ j % D * 2
        · have hc0 : 0 ≤ c := HCC.out.2 hge
          have HMS := Hid.mk' ((mod_step (L := L) (D := D) (j := j) hD0).1 hge)
          have HLS := Hid.mk' (fun (W : World) (u v : Value) hu hv => less1_any u v (L * 2 ^ j % D * 2) D W hu hv hD0 hge (by have := HRL.out; omega) HDR.out)
          clear hge
          have HKS : Hid (∀ W, Below x2.heap.size x2 W → (W.cell? ⟨B8, 0, none⟩ = some (.bool t2) ∧ W.cell? ⟨B8, 1, none⟩ = some (.slice p2 m2 q2) ∧ W.cell? ⟨B8, 2, none⟩ = some (.slice p2' m2' q2'))) := fun W hb => by have q := HR8.out.later hb; exact ⟨q.c0, q.c1, q.c2⟩
          have HLW := Hid.mk' (fun (W : World) (hb : Below x2.heap.size x2 W) => HR8.out.later hb)
          have hcur : Below x2.heap.size x2 x2.drew := (Below.refl _ _).drew
          go_wp2_with fail
          refine region_but_last (n := 3) (S := fun W => (W.cell? ⟨B8, 0, none⟩ = some (.bool t2) ∧ W.cell? ⟨B8, 1, none⟩ = some (.slice p2 m2 q2) ∧ W.cell? ⟨B8, 2, none⟩ = some (.slice p2' m2' q2'))) (by kernel_rfl) (by kernel_rfl) (by kernel_rfl) (HKS.out _ hcur) (fun hHeld => ?_)
          refine wpAnyH_take (i := 0) (v := ?v0bwc) rfl (by kernel_rfl) (by kernel_rfl) (by kernel_rfl) (fun _ _ _ h => h) (Or.inl ⟨by rfl, ?hy0bwc⟩) (by assumption) ?rest0bwc
          case hy0bwc => (intro w hSw; (try dsimp only at hSw); go_simp <;> (try with_reducible rfl))
          simp only [Act.put]
          refine wpAnyH_ready (rs := [1]) (by kernel_rfl) (by simp) ?_
          refine AllReadyH.cons rfl (fun K hK => ?_) AllReadyH.nil
          go_simp
          refine (HRO1.out _).mono ?_
          rintro e y5 ⟨r1, rfl, hr1, hb5⟩
          have hcur := below_chain hcur hb5
          have HX1 := Hid.mk' hr1
          clear hr1
          go_wp2_with fail
          refine hK.out _ _ ?_ (fun hHeld => ?_)
          · exact HKS.out _ hcur
          clear hK K
          refine wpAnyH_ready (rs := [2]) (by kernel_rfl) (by simp) ?_
          refine AllReadyH.cons rfl (fun K hK => ?_) AllReadyH.nil
          go_simp
          refine (HLS.out _ _ _ (HLW.out _ hcur).rat HX1.out).mono ?_
          rintro e y6 ⟨r2, rfl, hr2, hb6⟩
          have hcur := below_chain hcur hb6
          have HX2 := Hid.mk' hr2
          obtain ⟨t3, p3, m3, q3, p3', m3', q3', hr2e⟩ := hr2.sl
          subst hr2e
          clear hr2
          have hL := HLW.out _ hcur
          have fz0 := hL.fz 0 (by decide)
          have fz1 := hL.fz 1 (by decide)
          have fz2 := hL.fz 2 (by decide)
          have k0 := hL.c0
          have k1 := hL.c1
          have k2 := hL.c2
          obtain ⟨⟨g0, g1⟩, ⟨g2, g3⟩, g4⟩ := put_three' (.bool t3) (.slice p3 m3 q3) (.slice p3' m3' q3') k0 k1 k2
          have HSET := Hid.mk' (hL.put HX2.out)
          have HS5 := Hid.mk' ((HR5.out.later hcur).aside hL HNE.out.1 (.bool t3) (.slice p3 m3 q3) (.slice p3' m3' q3'))
          have HS6 := Hid.mk' ((HR6.out.later hcur).aside hL HNE.out.2 (.bool t3) (.slice p3 m3 q3) (.slice p3' m3' q3'))
          clear hL
          go_wp2_with fail
          refine hK.out _ _ ?_ (fun hHeld => ?_)
          · exact HKS.out _ hcur
          clear hK K
          refine wpAnyH_done (by kernel_rfl) ?_ _
          refine ahead_last rfl (fun K hK => ?_)
          go_simp
          refine hK _ _ ?_
          clear hK K
          unfold put3 at HSET HS5 HS6
          have HBN : Hid (Below w.heap.size w (((y6.setCell ⟨B8, 0, none⟩ (.bool t3)).setCell ⟨B8, 1, none⟩ (.slice p3 m3 q3)).setCell ⟨B8, 2, none⟩ (.slice p3' m3' q3'))) := (((below_chain HB.out hcur).setCell HLT.out _).setCell HLT.out _).setCell HLT.out _
          generalize ((y6.setCell ⟨B8, 0, none⟩ (.bool t3)).setCell ⟨B8, 1, none⟩ (.slice p3 m3 q3)).setCell ⟨B8, 2, none⟩ (.slice p3' m3' q3') = Wm at *
          clear HX1 HX2 hHeld g0 g1 g2 g3 g4 k0 k1 k2 fz0 fz1 fz2 hcur HKS HLW hb5 hb6 HR8 HR5 HR6 HB
          have HR8 := HSET
          have HR5 := HS5
          have HR6 := HS6
          have HB := HBN
          clear HSET HS5 HS6 HBN
          go_wp2_with fail
          go_roundg (2 * D - Wd * 2 ^ (j + 1))
          case measure => have h1 := HGK.out; have h2 := HLT2.out; have h3 := HNUM.out; have h4 : 1 * 2 ^ j ≤ Wd * 2 ^ j := Nat.mul_le_mul_right _ h3.2.1; have h5 := Nat.two_pow_pos j; have h6 := needN_le (D := D) (r := L * 2 ^ j % D); rw [h1, Nat.pow_succ, ← Nat.mul_assoc]; omega
          case rel =>
            refine ⟨j + 1, t3, p3, m3, q3, p3', m3', q3', rfl, ?_, ?_, HR5, HR6, HB, fun i hi => ?_⟩
            · rw [HMS.out.2, txt_one]
            · rw [HMS.out.1]; exact HR8
            · rcases Nat.lt_or_ge i j with h | h
              · exact HF.out i h
              · obtain rfl : i = j := by omega
                exact HLT2.out
        · have hc0 : ¬ 0 ≤ c := fun h => hge (HCC.out.1 h)
          have hc1 : c < 0 := by omega
          have HMS := Hid.mk' ((mod_step (L := L) (D := D) (j := j) hD0).2 (by omega))
          clear hge hc0
          go_wp2_with fail
          go_roundg (2 * D - Wd * 2 ^ (j + 1))
          case measure => have h1 := HGK.out; have h2 := HLT2.out; have h3 := HNUM.out; have h4 : 1 * 2 ^ j ≤ Wd * 2 ^ j := Nat.mul_le_mul_right _ h3.2.1; have h5 := Nat.two_pow_pos j; have h6 := needN_le (D := D) (r := L * 2 ^ j % D); rw [h1, Nat.pow_succ, ← Nat.mul_assoc]; omega
          case rel =>
            refine ⟨j + 1, t2, p2, m2, q2, p2', m2', q2', rfl, ?_, ?_, HR5, HR6, HB, fun i hi => ?_⟩
            · rw [HMS.out.2, txt_nought]
            · rw [HMS.out.1]; exact HR8
            · rcases Nat.lt_or_ge i j with h | h
              · exact HF.out i h
              · obtain rfl : i = j := by omega
                exact HLT2.out
end Go.Proofs.YtgfejijaipggeaaDoor

/- arith.Encode of a message that has a fault. -/
namespace Go.Proofs.YtgfejijaipggeaaDoor
open Go.RowKit

set_option maxRecDepth 100000 in
theorem Encode_bad (a : Nat → Addr) (vw vl : Value) (n m : Nat) (z l : Nat → Int) (w : World) (hE : Errs w a) (hw : NumsAt w vw n z) (hl : NumsAt w vl m l) (hn : n ≤ 1000000) (hm : m ≤ 1000000) (hb : (mesE z n m l).1 ≠ 0) :
    Calls Tryd.prog 11 #[vw, vl] w fun e w' => ∃ v, e = .returned (.tuple #[.string ⟨#[]⟩, v]) ∧ ErrIs a w' v (mesE z n m l) ∧ Below w.heap.size w w' := by
  have hC := checkMessage_any a vw vl n m z l _ hE hw hl hn hm
  clear hE hw hl
  go_enter Tryd.func11, Tryd.ntmps11
  go_wp2_with fail
  refine hC.mono ?_
  clear hC
  rintro e w1 ⟨v, rfl, hv, hb1⟩
  obtain ⟨t, x, hve⟩ := hv.iface hb
  have HV := Hid.mk' hv
  have HB := Hid.mk' hb1
  subst hve
  clear hv hb1
  go_wp2_with fail
  go_ret2
  exact ⟨_, rfl, HV.out, HB.out⟩
end Go.Proofs.YtgfejijaipggeaaDoor

/- The document's Told of a fraction. -/
namespace Go.Proofs.YtgfejijaipggeaaDoor
open Go.RowKit

theorem cmpOf_le {a b : Nat} (h : a ≤ b) : cmpOf a b ≤ 0 := by
  unfold cmpOf
  split
  · omega
  · split
    · omega
    · omega

set_option maxRecDepth 100000 in
set_option maxHeartbeats 2000000 in
theorem RTold_ok (v : Value) (m d : Nat) (w : World) (h : RatioAt w v (m : Int) d) (hm : m ≤ 4611686018427387904) (hd : d ≤ 4611686018427387904) :
    Calls Tryd.prog 37 #[v] w fun e w' => e = .returned (.tuple #[.agg #[.int .i64 m, .int .i64 d], .bool true]) ∧ Below w.heap.size w w' := by
  obtain ⟨u, q, rfl, hu, hq⟩ := h
  rw [Int.natAbs_natCast] at hu
  rw [decide_eq_false (show ¬ (m : Int) < 0 by omega)]
  obtain ⟨ad1, l1, cap1, rfl, _⟩ := hu.len
  obtain ⟨ad2, l2, cap2, rfl, _⟩ := hq.len
  obtain ⟨W0, hW0⟩ : ∃ W0, W0 = (w.alloc (.cells #[.bool false, .slice ad1 l1 cap1, .slice ad2 l2 cap2] 45)).alloc (.cells #[.int .i64 0, .int .i64 0] 38) := ⟨_, rfl⟩
  have hb0 : Below w.heap.size w W0 := by rw [hW0]; exact below_chain (new_below _ _) (new_below _ _)
  have HKS : Hid (∀ W, Below W0.heap.size W0 W → (W.cell? ⟨w.heap.size, 0, none⟩ = some (.bool false) ∧ W.cell? ⟨w.heap.size, 1, none⟩ = some (.slice ad1 l1 cap1) ∧ W.cell? ⟨w.heap.size, 2, none⟩ = some (.slice ad2 l2 cap2)) ∧ (W.cell? ⟨w.heap.size + 1, 0, none⟩ = some (.int .i64 0) ∧ W.cell? ⟨w.heap.size + 1, 1, none⟩ = some (.int .i64 0)) ∧ W.frozen? ⟨w.heap.size + 1, 0, none⟩ = false ∧ W.frozen? ⟨w.heap.size + 1, 1, none⟩ = false) := fun W hb => by
    have hr := hb
    rw [hW0] at hr
    have hr2 := res_past hr
    rw [World.size_alloc] at hr2
    have a : ∀ j v, #[Value.bool false, .slice ad1 l1 cap1, .slice ad2 l2 cap2][j]? = some v → W0.cell? ⟨w.heap.size, j, none⟩ = some v := fun j v h => by rw [hW0, World.cell?_alloc_lt _ _ ⟨w.heap.size, j, none⟩ (by simp), World.cell?_alloc_at _ _ _ _ rfl]; exact h
    exact ⟨⟨(cell_past (a 0 _ rfl) hb).2, (cell_past (a 1 _ rfl) hb).2, (cell_past (a 2 _ rfl) hb).2⟩, ⟨hr2.1, hr2.2.1⟩, hr2.2.2⟩
  have HU : Hid (∀ W, Below W0.heap.size W0 W → BigAt W (.slice ad1 l1 cap1) m ∧ BigAt W (.slice ad2 l2 cap2) d) := fun W hb => ⟨(hu.later hb0).later hb, (hq.later hb0).later hb⟩
  have hof : Calls Tryd.prog 65 #[.int .i64 4611686018427387904] W0 fun e w' => ∃ v, e = .returned v ∧ BigAt w' v 4611686018427387904 ∧ Below W0.heap.size W0 w' := BigOf_any 4611686018427387904 W0 (Nat.le_refl _)
  have k4 : (4611686018427387904 : Nat) < 1000000 ^ 4 := by decide
  obtain ⟨z1, hz1⟩ : ∃ z, z = cmpOf m 4611686018427387904 := ⟨_, rfl⟩
  obtain ⟨z2, hz2⟩ : ∃ z, z = cmpOf d 4611686018427387904 := ⟨_, rfl⟩
  have hle1 : ¬ 0 < z1 := by rw [hz1]; have := cmpOf_le hm; omega
  have hle2 : ¬ 0 < z2 := by rw [hz2]; have := cmpOf_le hd; omega
  have HC1 : Hid (∀ (W : World) (v : Value), Below W0.heap.size W0 W → BigAt W v 4611686018427387904 → Calls Tryd.prog 66 #[.slice ad1 l1 cap1, v] W fun e w' => e = .returned (.int .i64 z1) ∧ ∃ m, w' = W.drewN m) := fun W v hb hv => by
    rw [hz1]; exact BigCmp_any _ _ m _ 4 W (HU.out W hb).1 hv (Nat.lt_of_le_of_lt hm k4) k4 (by decide)
  have HC2 : Hid (∀ (W : World) (v : Value), Below W0.heap.size W0 W → BigAt W v 4611686018427387904 → Calls Tryd.prog 66 #[.slice ad2 l2 cap2, v] W fun e w' => e = .returned (.int .i64 z2) ∧ ∃ m, w' = W.drewN m) := fun W v hb hv => by
    rw [hz2]; exact BigCmp_any _ _ d _ 4 W (HU.out W hb).2 hv (Nat.lt_of_le_of_lt hd k4) k4 (by decide)
  have HI1 : Hid (∀ W, Below W0.heap.size W0 W → Calls Tryd.prog 67 #[.slice ad1 l1 cap1] W fun e w' => e = .returned (.tuple #[.int .i64 m, .bool true]) ∧ w' = W) := fun W hb => BigInt_any _ m W (HU.out W hb).1 hm
  have HI2 : Hid (∀ W, Below W0.heap.size W0 W → Calls Tryd.prog 67 #[.slice ad2 l2 cap2] W fun e w' => e = .returned (.tuple #[.int .i64 d, .bool true]) ∧ w' = W) := fun W hb => BigInt_any _ d W (HU.out W hb).2 hd
  have HB0 := Hid.mk' hb0
  have HW0 := Hid.mk' hW0
  clear hu hq hb0 hW0 hz1 hz2 k4 hm hd
  go_enter Tryd.func37, Tryd.ntmps37
  go_upto_region 1 with fail
  rw [← HW0.out]
  go_wp2_with fail
  refine hof.mono ?_
  clear hof
  rintro e w1 ⟨v1, rfl, hv1, hb1⟩
  obtain ⟨⟨x0, x1, x2⟩, _, _, _⟩ := HKS.out w1 hb1
  have hc1 := HC1.out w1 v1 hb1 hv1
  go_wp2_with fail
  refine hc1.mono ?_
  rintro e w2 ⟨rfl, m2, hw2⟩
  have hb2 : Below w1.heap.size w1 w2 := by rw [hw2]; exact below_drewN (Below.refl _ _) _
  have hv2 := hv1.later hb2
  have hb02 := below_chain hb1 hb2
  clear hw2 hb1 hv1 hb2 hc1 x0 x1 x2
  obtain ⟨⟨x0, x1, x2⟩, _, _, _⟩ := HKS.out w2 hb02
  have hc2 := HC2.out w2 v1 hb02 hv2
  go_wp2_with fail
  refine hc2.mono ?_
  rintro e w3 ⟨rfl, m3, hw3⟩
  have hb3 : Below w2.heap.size w2 w3 := by rw [hw3]; exact below_drewN (Below.refl _ _) _
  have hb03 := below_chain hb02 hb3
  clear hw3 hb02 hv2 hb3 hc2 x0 x1 x2
  obtain ⟨⟨x0, x1, x2⟩, ⟨c0, c1⟩, f0, f1⟩ := HKS.out w3 hb03
  have hi1 := HI1.out w3 hb03
  have hi2 := HI2.out w3 hb03
  have HB3 := Hid.mk' (below_chain HB0.out hb03)
  clear hb03
  go_wp2_with (first
    | (go_at_call_of 67 cap1; refine hi1.mono ?_; rintro e w4 ⟨rfl, hw4⟩; rw [hw4]; clear hw4)
    | (go_at_call_of 67 cap2; refine hi2.mono ?_; rintro e w4 ⟨rfl, hw4⟩; rw [hw4]; clear hw4))
  refine bodyPost_ret (v := .tuple #[.agg #[.int .i64 m, .int .i64 d], .bool true]) (by simp [results, Tryd.results37, go_sem, c0, c1]) rfl ⟨rfl, ?_⟩
  exact (HB3.out.setCell (by show w.heap.size ≤ w.heap.size + 1; omega) _).setCell (by show w.heap.size ≤ w.heap.size + 1; omega) _
end Go.Proofs.YtgfejijaipggeaaDoor

/- The document's Told of a fraction too great. -/
namespace Go.Proofs.YtgfejijaipggeaaDoor
open Go.RowKit

theorem cmpOf_up {a b : Nat} (h : b < a) : 0 < cmpOf a b := by
  unfold cmpOf
  rw [if_neg (by omega), if_pos h]
  decide
set_option maxRecDepth 100000 in
set_option maxHeartbeats 2000000 in
theorem RTold_not (v : Value) (m d : Nat) (w : World) (h : RatioAt w v (m : Int) d) (hm : m < 1000000 ^ 20) (hd : d < 1000000 ^ 20) (hbig : 4611686018427387904 < m ∨ 4611686018427387904 < d) :
    Calls Tryd.prog 37 #[v] w fun e w' => e = .returned (.tuple #[.agg #[.int .i64 0, .int .i64 0], .bool false]) ∧ Below w.heap.size w w' := by
  obtain ⟨u, q, rfl, hu, hq⟩ := h
  rw [Int.natAbs_natCast] at hu
  rw [decide_eq_false (show ¬ (m : Int) < 0 by omega)]
  obtain ⟨ad1, l1, cap1, rfl, _⟩ := hu.len
  obtain ⟨ad2, l2, cap2, rfl, _⟩ := hq.len
  obtain ⟨W0, hW0⟩ : ∃ W0, W0 = (w.alloc (.cells #[.bool false, .slice ad1 l1 cap1, .slice ad2 l2 cap2] 45)).alloc (.cells #[.int .i64 0, .int .i64 0] 38) := ⟨_, rfl⟩
  have hb0 : Below w.heap.size w W0 := by rw [hW0]; exact below_chain (new_below _ _) (new_below _ _)
  have HKS : Hid (∀ W, Below W0.heap.size W0 W → (W.cell? ⟨w.heap.size, 0, none⟩ = some (.bool false) ∧ W.cell? ⟨w.heap.size, 1, none⟩ = some (.slice ad1 l1 cap1) ∧ W.cell? ⟨w.heap.size, 2, none⟩ = some (.slice ad2 l2 cap2)) ∧ (W.cell? ⟨w.heap.size + 1, 0, none⟩ = some (.int .i64 0) ∧ W.cell? ⟨w.heap.size + 1, 1, none⟩ = some (.int .i64 0)) ∧ W.frozen? ⟨w.heap.size + 1, 0, none⟩ = false ∧ W.frozen? ⟨w.heap.size + 1, 1, none⟩ = false) := fun W hb => by
    have hr := hb
    rw [hW0] at hr
    have hr2 := res_past hr
    rw [World.size_alloc] at hr2
    have a : ∀ j v, #[Value.bool false, .slice ad1 l1 cap1, .slice ad2 l2 cap2][j]? = some v → W0.cell? ⟨w.heap.size, j, none⟩ = some v := fun j v h => by rw [hW0, World.cell?_alloc_lt _ _ ⟨w.heap.size, j, none⟩ (by simp), World.cell?_alloc_at _ _ _ _ rfl]; exact h
    exact ⟨⟨(cell_past (a 0 _ rfl) hb).2, (cell_past (a 1 _ rfl) hb).2, (cell_past (a 2 _ rfl) hb).2⟩, ⟨hr2.1, hr2.2.1⟩, hr2.2.2⟩
  have HU : Hid (∀ W, Below W0.heap.size W0 W → BigAt W (.slice ad1 l1 cap1) m ∧ BigAt W (.slice ad2 l2 cap2) d) := fun W hb => ⟨(hu.later hb0).later hb, (hq.later hb0).later hb⟩
  have hof : Calls Tryd.prog 65 #[.int .i64 4611686018427387904] W0 fun e w' => ∃ v, e = .returned v ∧ BigAt w' v 4611686018427387904 ∧ Below W0.heap.size W0 w' := BigOf_any 4611686018427387904 W0 (Nat.le_refl _)
  have k4 : (4611686018427387904 : Nat) < 1000000 ^ 20 := by decide
  obtain ⟨z1, hz1⟩ : ∃ z, z = cmpOf m 4611686018427387904 := ⟨_, rfl⟩
  obtain ⟨z2, hz2⟩ : ∃ z, z = cmpOf d 4611686018427387904 := ⟨_, rfl⟩
  have hz12 : 0 < z1 ∨ ¬ 0 < z1 ∧ 0 < z2 := by
    rcases Nat.lt_or_ge 4611686018427387904 m with h | h
    · exact Or.inl (by rw [hz1]; exact cmpOf_up h)
    · refine Or.inr ⟨by rw [hz1]; have := cmpOf_le h; omega, by rw [hz2]; exact cmpOf_up (by omega)⟩
  have HC1 : Hid (∀ (W : World) (v : Value), Below W0.heap.size W0 W → BigAt W v 4611686018427387904 → Calls Tryd.prog 66 #[.slice ad1 l1 cap1, v] W fun e w' => e = .returned (.int .i64 z1) ∧ ∃ m, w' = W.drewN m) := fun W v hb hv => by
    rw [hz1]; exact BigCmp_any _ _ m _ 20 W (HU.out W hb).1 hv hm k4 (by decide)
  have HC2 : Hid (∀ (W : World) (v : Value), Below W0.heap.size W0 W → BigAt W v 4611686018427387904 → Calls Tryd.prog 66 #[.slice ad2 l2 cap2, v] W fun e w' => e = .returned (.int .i64 z2) ∧ ∃ m, w' = W.drewN m) := fun W v hb hv => by
    rw [hz2]; exact BigCmp_any _ _ d _ 20 W (HU.out W hb).2 hv hd k4 (by decide)
  have HB0 := Hid.mk' hb0
  have HW0 := Hid.mk' hW0
  clear hu hq hb0 hW0 hz1 hz2 k4 hm hd hbig
  go_enter Tryd.func37, Tryd.ntmps37
  go_upto_region 1 with fail
  rw [← HW0.out]
  go_wp2_with fail
  refine hof.mono ?_
  clear hof
  rintro e w1 ⟨v1, rfl, hv1, hb1⟩
  obtain ⟨⟨x0, x1, x2⟩, _, _, _⟩ := HKS.out w1 hb1
  have hc1 := HC1.out w1 v1 hb1 hv1
  go_wp2_with fail
  refine hc1.mono ?_
  rintro e w2 ⟨rfl, m2, hw2⟩
  have hb2 : Below w1.heap.size w1 w2 := by rw [hw2]; exact below_drewN (Below.refl _ _) _
  have hv2 := hv1.later hb2
  have hb02 := below_chain hb1 hb2
  clear hw2 hb1 hv1 hb2 hc1 x0 x1 x2
  rcases hz12 with hz | ⟨hz, hz2⟩
  · obtain ⟨_, ⟨c0, c1⟩, f0, f1⟩ := HKS.out w2 hb02
    have HB3 := Hid.mk' (below_chain HB0.out hb02)
    clear hb02
    go_wp2_with fail
    refine bodyPost_ret (v := .tuple #[.agg #[.int .i64 0, .int .i64 0], .bool false]) (by simp [results, Tryd.results37, go_sem, c0, c1]) rfl ⟨rfl, ?_⟩
    exact (HB3.out.setCell (by show w.heap.size ≤ w.heap.size + 1; omega) _).setCell (by show w.heap.size ≤ w.heap.size + 1; omega) _
  · obtain ⟨⟨x0, x1, x2⟩, _, _, _⟩ := HKS.out w2 hb02
    have hc2 := HC2.out w2 v1 hb02 hv2
    go_wp2_with fail
    refine hc2.mono ?_
    rintro e w3 ⟨rfl, m3, hw3⟩
    have hb3 : Below w2.heap.size w2 w3 := by rw [hw3]; exact below_drewN (Below.refl _ _) _
    have hb03 := below_chain hb02 hb3
    clear hw3 hb02 hv2 hb3 hc2 x0 x1 x2
    obtain ⟨_, ⟨c0, c1⟩, f0, f1⟩ := HKS.out w3 hb03
    have HB3 := Hid.mk' (below_chain HB0.out hb03)
    clear hb03
    go_wp2_with fail
    refine bodyPost_ret (v := .tuple #[.agg #[.int .i64 0, .int .i64 0], .bool false]) (by simp [results, Tryd.results37, go_sem, c0, c1]) rfl ⟨rfl, ?_⟩
    exact (HB3.out.setCell (by show w.heap.size ≤ w.heap.size + 1; omega) _).setCell (by show w.heap.size ≤ w.heap.size + 1; omega) _
end Go.Proofs.YtgfejijaipggeaaDoor

/- The closed fact at the head of chapter 5's laws: of two even weights the message 1, 0 begins at a half. -/
namespace Go.Proofs.YtgfejijaipggeaaDoor
open Go.RowKit

def quZ (_ : Nat) : Int := 1
def quL (i : Nat) : Int := if i = 0 then 1 else 0
theorem qu_ok : (mesE quZ 2 2 quL).1 = 0 := by decide
theorem qu_told (a : Nat → Addr) : ivV a (cutL quZ quL 2 2) (cutW quZ quL 2) (2 ^ 2) = .tuple #[.agg #[.int .i64 1, .int .i64 2], .agg #[.int .i64 1, .int .i64 4], .nilIface] := by
  have e1 : cutL quZ quL 2 2 = 2 := by decide
  have e2 : cutW quZ quL 2 = 1 := by decide
  rw [e1, e2]
  rfl
set_option maxRecDepth 100000 in
theorem quarter_any (a : Nat → Addr) (w : World) (hE : Errs w a) :
    Calls Tryd.prog 6 #[] w fun e w' => e = .returned (.bool true) ∧ Below w.heap.size w w' := by
  have hb0 : Below w.heap.size w ((w.alloc (.cells #[.int .i64 1, .int .i64 1] 3)).alloc (.cells #[.int .i64 1, .int .i64 0] 3)) := ((Below.refl _ _).alloc (Nat.le_refl _) _).alloc (by simp) _
  have hr : RowAt ((w.alloc (.cells #[.int .i64 1, .int .i64 1] 3)).alloc (.cells #[.int .i64 1, .int .i64 0] 3)) w.heap.size 0 2 quZ := fun i hi => by
    rw [World.cell?_alloc_lt _ _ _ (by simp), World.cell?_alloc_at _ _ _ _ rfl]
    rcases (show i = 0 ∨ i = 1 by omega) with rfl | rfl <;> rfl
  have hl : NumsAt ((w.alloc (.cells #[.int .i64 1, .int .i64 1] 3)).alloc (.cells #[.int .i64 1, .int .i64 0] 3)) (.slice (some ⟨w.heap.size + 1, 0, none⟩) 2 2) 2 quL := Or.inr ⟨_, _, _, rfl, by decide, fun i hi => by
    rw [top_cell _ _ _ _ (by simp)]
    rcases (show i = 0 ∨ i = 1 by omega) with rfl | rfl <;> rfl⟩
  have hI := Interval_ok a w.heap.size 0 2 _ 2 2 2 quZ quL _ (hE.below hb0) hr (Nat.le_refl _) hl rfl qu_ok
  rw [qu_told] at hI
  have HB0 := Hid.mk' hb0
  clear hr hl hE hb0
  go_enter Tryd.func6, Tryd.ntmps6
  go_wp2_with fail
  refine hI.mono ?_
  clear hI
  rintro e w1 ⟨rfl, hb1⟩
  have HB1 := Hid.mk' (below_chain HB0.out hb1)
  clear hb1
  go_wp2_with fail
  go_ret
  exact ⟨rfl, (HB1.out.alloc HB1.out.size _).alloc (by have := HB1.out.size; simp; omega) _⟩
end Go.Proofs.YtgfejijaipggeaaDoor

/- coded of an error by its number. -/
namespace Go.Proofs.YtgfejijaipggeaaDoor
open Go.RowKit

theorem coded_errV (a : Nat → Addr) (c : Nat) (hc : c ≤ 8) (w : World) (h : Errs w a) :
    Calls Tryd.prog 19 #[errV a c, .int .i64 (c : Int)] w fun e w' => e = .returned (.bool true) ∧ Below w.heap.size w w' := by
  by_cases h0 : c = 0
  · subst h0
    rw [errV_zero]
    refine (coded_nil 0 w).mono ?_
    rintro e w' ⟨rfl, rfl⟩
    exact ⟨rfl, Below.refl _ _⟩
  · rw [errV_pos a h0]
    have h1 := coded_err a (c - 1) (by omega) (c : Int) w h
    have e : decide ((c : Int) = ((c - 1 : Nat) : Int) + 1) = true := decide_eq_true (by omega)
    rw [e] at h1
    exact h1
end Go.Proofs.YtgfejijaipggeaaDoor

/- Messages in the document; an error held against its number and place. -/
namespace Go.Proofs.YtgfejijaipggeaaDoor
open Go.RowKit

set_option maxRecDepth 100000 in
set_option maxHeartbeats 1000000 in
theorem MessageFault_any (vw vl : Value) (n m : Nat) (z l : Nat → Int) (w : World) (hw : NumsAt w vw n z) (hl : NumsAt w vl m l) (hn : n ≤ 1000000) (hm : m ≤ 1000000) :
    Calls Tryd.prog 9 #[vw, vl] w fun e w' => e = .returned (.agg #[.int .i64 ((msgE z n m l).1 : Int), .int .i64 (msgE z n m l).2]) ∧ Below w.heap.size w w' := by
  obtain ⟨ad, cap, rfl, hrw⟩ := hw.rowAt
  obtain ⟨al, cl, rfl, hrl⟩ := hl.rowAt
  have hb0 : Below w.heap.size w (w.alloc (.cells #[.int .i64 0, .int .i64 0] 27)) := (Below.refl _ _).alloc (Nat.le_refl _) _
  have HRW : Hid (∀ i, i < n → ∃ b o, ad = some ⟨b, o, none⟩ ∧ (w.alloc (.cells #[.int .i64 0, .int .i64 0] 27)).cell? ⟨b, o + i, none⟩ = some (.int .i64 (z i))) := fun i hi => by
    obtain ⟨b, o, h1, h2⟩ := hrw i hi
    exact ⟨b, o, h1, by rw [hb0.cell (cell_lt h2)]; exact h2⟩
  have HRL : Hid (∀ i, i < m → ∃ b o, al = some ⟨b, o, none⟩ ∧ (w.alloc (.cells #[.int .i64 0, .int .i64 0] 27)).cell? ⟨b, o + i, none⟩ = some (.int .i64 (l i))) := fun i hi => by
    obtain ⟨b, o, h1, h2⟩ := hrl i hi
    exact ⟨b, o, h1, by rw [hb0.cell (cell_lt h2)]; exact h2⟩
  have HB0 := Hid.mk' hb0
  clear hrw hrl hw hl hb0
  have x0 : (w.alloc (.cells #[.int .i64 0, .int .i64 0] 27)).cell? ⟨w.heap.size, 0, none⟩ = some (.int .i64 0) := by simp
  have x1 : (w.alloc (.cells #[.int .i64 0, .int .i64 0] 27)).cell? ⟨w.heap.size, 1, none⟩ = some (.int .i64 0) := by simp
  have f0 : (w.alloc (.cells #[.int .i64 0, .int .i64 0] 27)).frozen? ⟨w.heap.size, 0, none⟩ = false := by simp
  have f1 : (w.alloc (.cells #[.int .i64 0, .int .i64 0] 27)).frozen? ⟨w.heap.size, 1, none⟩ = false := by simp
  have HP : Hid (∀ (c t : Int), ((((w.alloc (.cells #[.int .i64 0, .int .i64 0] 27)).setCell ⟨w.heap.size, 0, none⟩ (.int .i64 c)).setCell ⟨w.heap.size, 1, none⟩ (.int .i64 t)).cell? ⟨w.heap.size, 0, none⟩ = some (.int .i64 c) ∧ (((w.alloc (.cells #[.int .i64 0, .int .i64 0] 27)).setCell ⟨w.heap.size, 0, none⟩ (.int .i64 c)).setCell ⟨w.heap.size, 1, none⟩ (.int .i64 t)).cell? ⟨w.heap.size, 1, none⟩ = some (.int .i64 t)) ∧ Below w.heap.size w (((w.alloc (.cells #[.int .i64 0, .int .i64 0] 27)).setCell ⟨w.heap.size, 0, none⟩ (.int .i64 c)).setCell ⟨w.heap.size, 1, none⟩ (.int .i64 t))) := fun c t => by
    refine ⟨⟨?_, ?_⟩, (HB0.out.setCell (Nat.le_refl _) _).setCell (Nat.le_refl _) _⟩
    · rw [World.cell?_setCell_other _ _ _ _ (by simp)]
      exact World.cell?_setCell_same _ _ _ x0
    · exact World.cell?_setCell_same _ _ _ (u := .int .i64 0) (by rw [World.cell?_setCell_other _ _ _ _ (by simp)]; exact x1)
  by_cases h200 : 200 < m
  · have HM : Hid (msgE z n m l = (2, -1)) := by unfold msgE; rw [if_pos h200]; exact rfl
    go_enter Tryd.func9, Tryd.ntmps9
    go_wp2_with fail
    exact bodyPost_ret (v := .agg #[.int .i64 2, .int .i64 (-1)]) (by simp [results, Tryd.results9, go_sem]) rfl ⟨by rw [HM.out]; rfl, (Below.refl _ _).alloc (Nat.le_refl _) _⟩
  · have HM2 : Hid (msgE z n m l = if fstB (badS n l) m < m then (3, (fstB (badS n l) m : Int)) else if fstB (zerS z l) m < m then (4, (fstB (zerS z l) m : Int)) else (0, -1)) := by unfold msgE; rw [if_neg h200]; exact rfl
    generalize hW : w.alloc (.cells #[.int .i64 0, .int .i64 0] 27) = W at *
    go_enter Tryd.func9, Tryd.ntmps9
    go_wp2_with fail
    clear hW
    go_loopw [5, 6] (fun s t wr => ∃ i y : Nat, i ≤ m ∧ t = .int .i64 i ∧ wr = W ∧ ((s = .int .i64 (-1) ∧ Hid (∀ j, j < i → zerS z l j = false)) ∨ (s = .int .i64 (y : Int) ∧ y < i ∧ Hid (fstB (zerS z l) m = y))) ∧ Hid (∀ j, j < i → badS n l j = false)) (fun _ t _ => m - (intOf t).toNat)
    case atStart => exact ⟨0, 0, Nat.zero_le _, rfl, rfl, Or.inl ⟨rfl, fun j hj => by omega⟩, fun j hj => by omega⟩
    case round =>
      obtain ⟨i, y, hi, rfl, rfl, hs, HJ⟩ := hrel
      rcases Nat.lt_or_ge i m with h1 | h1
      · obtain ⟨b, o, rfl, hc⟩ := HRL.out i h1
        have him : (i : Int) < (m : Int) := by omega
        by_cases hb : badS n l i = true
        · have HF : Hid (msgE z n m l = (3, (i : Int))) := by rw [HM2.out, fstB_at HJ.out hb h1, if_pos h1]; exact rfl
          have hb' : l i < 0 ∨ (n : Int) ≤ l i := of_decide_eq_true hb
          clear hb
          generalize l i = x at *
          obtain ⟨⟨g0, g1⟩, g2⟩ := HP.out 3 (i : Int)
          have G0 := Hid.mk' g0
          have G1 := Hid.mk' g1
          have G2 := Hid.mk' g2
          clear g0 g1 g2
          rcases hb' with hx | hx
          · rcases hs with ⟨rfl, _⟩ | ⟨rfl, _, _⟩
            all_goals (
              go_wp2_with fail
              exact bodyPost_ret (v := .agg #[.int .i64 3, .int .i64 (i : Int)]) (by simp [results, Tryd.results9, go_sem, G0.out, G1.out]) rfl ⟨by rw [HF.out]; rfl, G2.out⟩)
          · have hx0 : ¬ x < 0 := by omega
            rcases hs with ⟨rfl, _⟩ | ⟨rfl, _, _⟩
            all_goals (
              go_wp2_with fail
              exact bodyPost_ret (v := .agg #[.int .i64 3, .int .i64 (i : Int)]) (by simp [results, Tryd.results9, go_sem, G0.out, G1.out]) rfl ⟨by rw [HF.out]; rfl, G2.out⟩)
        · have hb0 : badS n l i = false := by simpa using hb
          have HJ2 : Hid (∀ j, j < i + 1 → badS n l j = false) := fun j hj => by
            rcases Nat.lt_or_ge j i with h2 | h2
            · exact HJ.out j h2
            · obtain rfl : j = i := by omega
              exact hb0
          have hb' : ¬ (l i < 0 ∨ (n : Int) ≤ l i) := of_decide_eq_false hb0
          have HZ : Hid (zerS z l i = decide (z (l i).toNat = 0)) := rfl
          have hx0 : 0 ≤ l i := by omega
          have hx1 : l i < (n : Int) := by omega
          clear hb hb0 hb'
          obtain ⟨s, hsl⟩ : ∃ s : Nat, l i = (s : Int) := ⟨(l i).toNat, by omega⟩
          rw [hsl] at hc hx0 hx1 HZ
          clear hsl
          obtain ⟨b', o', rfl, hc'⟩ := HRW.out s (by omega)
          rw [Int.toNat_natCast] at HZ
          rcases hs with ⟨rfl, HQ⟩ | ⟨rfl, hy, HQ⟩
          · by_cases hz : z s = 0
            · have HF : Hid (fstB (zerS z l) m = i) := fstB_at HQ.out (by rw [HZ.out]; exact decide_eq_true hz) h1
              rw [hz] at hc'
              clear hz HZ
              go_wp2_with fail
              exact ⟨⟨i + 1, i, h1, by go_num, trivial, Or.inr ⟨rfl, Nat.lt_succ_self _, HF.out⟩, HJ2.out⟩, by simp [intOf]; omega⟩
            · have HK2 : Hid (∀ j, j < i + 1 → zerS z l j = false) := fun j hj => by
                rcases Nat.lt_or_ge j i with h2 | h2
                · exact HQ.out j h2
                · obtain rfl : j = i := by omega
                  rw [HZ.out]; exact decide_eq_false hz
              generalize z s = q at hc' hz
              have hyb : (q == 0) = false := by simpa using hz
              clear hz HZ
              go_wp2_with fail
              exact ⟨⟨i + 1, y, h1, by go_num, trivial, Or.inl ⟨rfl, HK2.out⟩, HJ2.out⟩, by simp [intOf]; omega⟩
          · have hyi : ¬ (y : Int) < 0 := by omega
            go_wp2_with fail
            exact ⟨⟨i + 1, y, h1, by go_num, trivial, Or.inr ⟨rfl, by omega, HQ.out⟩, HJ2.out⟩, by simp [intOf]; omega⟩
      · obtain rfl : i = m := by omega
        have HM3 : Hid (msgE z n i l = if fstB (zerS z l) i < i then (4, (fstB (zerS z l) i : Int)) else (0, -1)) := by rw [HM2.out, fstB_all HJ.out, if_neg (Nat.lt_irrefl _)]; exact rfl
        clear HM2 h1
        rcases hs with ⟨rfl, HQ⟩ | ⟨rfl, hy, HQ⟩
        · have HF : Hid (msgE z n i l = (0, -1)) := by rw [HM3.out, fstB_all HQ.out, if_neg (Nat.lt_irrefl _)]; exact rfl
          obtain ⟨⟨g0, g1⟩, g2⟩ := HP.out 0 (-1)
          have G0 := Hid.mk' g0
          have G1 := Hid.mk' g1
          have G2 := Hid.mk' g2
          clear g0 g1 g2
          go_wp2_with fail
          exact bodyPost_ret (v := .agg #[.int .i64 0, .int .i64 (-1)]) (by simp [results, Tryd.results9, go_sem, G0.out, G1.out]) rfl ⟨by rw [HF.out]; rfl, G2.out⟩
        · have HF : Hid (msgE z n i l = (4, (y : Int))) := by rw [HM3.out, HQ.out, if_pos hy]; exact rfl
          have hy0 : (0 : Int) ≤ (y : Int) := by omega
          obtain ⟨⟨g0, g1⟩, g2⟩ := HP.out 4 (y : Int)
          have G0 := Hid.mk' g0
          have G1 := Hid.mk' g1
          have G2 := Hid.mk' g2
          clear g0 g1 g2
          go_wp2_with fail
          exact bodyPost_ret (v := .agg #[.int .i64 4, .int .i64 (y : Int)]) (by simp [results, Tryd.results9, go_sem, G0.out, G1.out]) rfl ⟨by rw [HF.out]; rfl, G2.out⟩

theorem Code_is (a : Nat → Addr) (v : Value) (c : Nat × Int) (w : World) (hE : Errs w a) (h : ErrIs a w v c) :
    Calls Tryd.prog 35 #[v] w fun e w' => (∃ t, e = .returned (.tuple #[.int .i64 (c.1 : Int), .int .i64 t]) ∧ (c.1 ≠ 0 → t = c.2)) ∧ Below w.heap.size w w' := by
  rcases h with ⟨rfl, h2, h3⟩ | ⟨pb, rfl, h1, h2, h3, h4⟩
  · by_cases h0 : c.1 = 0
    · rw [h0, errV_zero]
      refine (code_nil w).mono ?_
      rintro e w' ⟨rfl, rfl⟩
      exact ⟨⟨-1, rfl, fun h => absurd rfl h⟩, Below.refl _ _⟩
    · rw [errV_pos a h0]
      have hk := hE.row (c.1 - 1) (by omega)
      refine (code_err a (a (c.1 - 1)) (c.1 - 1) (by omega) w hE hk (fun j hj => hE.ne (c.1 - 1) j (by omega) (by omega) (by omega)) (fun _ => rfl)).mono ?_
      rintro e w' ⟨rfl, hb⟩
      rw [codeOf_lt (by omega)]
      exact ⟨⟨-1, by rw [show ((c.1 - 1 : Nat) : Int) + 1 = (c.1 : Int) by omega], fun _ => h2.symm⟩, hb⟩
  · refine (code_fault a pb c.2 (c.1 - 1) (by omega) w hE (cell_lt h1) h1 h2).mono ?_
    rintro e w' ⟨rfl, hb⟩
    exact ⟨⟨c.2, by rw [show ((c.1 - 1 : Nat) : Int) + 1 = (c.1 : Int) by omega], fun _ => rfl⟩, hb⟩

set_option maxRecDepth 100000 in
theorem faulted_is (a : Nat → Addr) (v : Value) (c : Nat × Int) (w : World) (hE : Errs w a) (h : ErrIs a w v c) :
    Calls Tryd.prog 13 #[v, .agg #[.int .i64 (c.1 : Int), .int .i64 c.2]] w fun e w' => e = .returned (.bool true) ∧ Below w.heap.size w w' := by
  obtain ⟨k, t⟩ := c
  have hb0 : Below w.heap.size w (w.alloc (.cells #[.int .i64 (k : Int), .int .i64 t] 27)) := (Below.refl _ _).alloc (Nat.le_refl _) _
  have hC := Code_is a v (k, t) _ (hE.below hb0) (h.later hb0)
  have HB0 := Hid.mk' hb0
  clear h hE hb0
  have x0 : (w.alloc (.cells #[.int .i64 (k : Int), .int .i64 t] 27)).cell? ⟨w.heap.size, 0, none⟩ = some (.int .i64 (k : Int)) := by simp
  have x1 : (w.alloc (.cells #[.int .i64 (k : Int), .int .i64 t] 27)).cell? ⟨w.heap.size, 1, none⟩ = some (.int .i64 t) := by simp
  have hl : w.heap.size < (w.alloc (.cells #[.int .i64 (k : Int), .int .i64 t] 27)).heap.size := by simp
  go_enter Tryd.func13, Tryd.ntmps13
  go_wp2_with fail
  refine hC.mono ?_
  clear hC
  rintro e w1 ⟨⟨q, rfl, hq⟩, hb1⟩
  have y0 : w1.cell? ⟨w.heap.size, 0, none⟩ = some (.int .i64 (k : Int)) := by rw [hb1.cell (by exact hl)]; exact x0
  have y1 : w1.cell? ⟨w.heap.size, 1, none⟩ = some (.int .i64 t) := by rw [hb1.cell (by exact hl)]; exact x1
  have HB1 := Hid.mk' (below_chain HB0.out hb1)
  clear x0 x1 hb1 hl
  by_cases h0 : k = 0
  · subst h0
    go_wp2_with fail
    go_ret
    exact ⟨rfl, HB1.out⟩
  · obtain rfl : q = t := hq h0
    have hk0 : ((k : Int) == 0) = false := by simp; exact h0
    clear hq h0
    go_wp2_with fail
    go_ret
    exact ⟨rfl, HB1.out⟩
end Go.Proofs.YtgfejijaipggeaaDoor

/- The law's copies of lists. -/
namespace Go.Proofs.YtgfejijaipggeaaDoor
open Go.RowKit

theorem append_zeroI (w : World) (ty : TypeId) (ad : Option Addr) (cap : Nat) : (Builtin.append_ #[22, 22] ty #[.slice none 0 0, .slice ad 0 cap]).run Tryd.prog w = .ok (.slice none 0 0) w := by
  obtain ⟨i, hi, hi2⟩ := Option.map_eq_some_iff.1 Tryd.infoInt
  refine run_append_nothing w _ _ ty 3 i Tryd.underlying22 hi none 0 0 (Nat.le_refl _) _ ?_
  cases ad with
  | none => exact Src.ofNil w Tryd.underlying22 cap
  | some a => exact Src.ofSlice w Tryd.underlying22 a 0 cap [] (by simp) (fun j u h => by simp at h) (fun u h => by simp at h)
theorem wpList_append_zeroI {w : World} {ops : Array Oper} {rest : List Oper} {o : Oper} {a : Act} {Q : Exit → Act → World → Prop} (hgd : o.guard = none) (s x : Operand)
    (ho : o.op = .call { callee := .builtin .append, args := #[s, x], argTypes := #[22, 22] })
    (ad : Option Addr) (cap : Nat) (hs : a.eval s = .slice none 0 0) (hx : a.eval x = .slice ad 0 cap)
    (h : wpList Tryd.prog ops Q rest (a.put o.dst (.slice none 0 0)) w) : wpList Tryd.prog ops Q (o :: rest) a w := by
  refine wpList_plain hgd fun K hK => ?_
  have hrun := append_zeroI w o.type ad cap
  unfold Oper.wp
  simp [execOp, ho, resolve, invoke, builtin, hs, hx, hrun, Result.andThen]
  exact hK _ _ h

theorem numsAt_own {w : World} {base : Nat} {v : Value} {n : Nat} {z : Nat → Int} (h : w.ownsRow base 3 1 v n (numCells z n)) : NumsAt w v n z := by
  rcases h.2 with ⟨hv, h0⟩ | ⟨g, cap, cur, hv, _⟩
  · exact Or.inl ⟨none, 0, hv, h0⟩
  · rcases Nat.eq_zero_or_pos n with h0 | h0
    · exact Or.inl ⟨_, _, by rw [hv, h0], h0⟩
    · subst hv
      exact Or.inr ⟨g, 0, cap, rfl, h0, rowAt_of_row h⟩
set_option maxRecDepth 100000 in
set_option maxHeartbeats 1000000 in
theorem ints_row (v : Value) (n : Nat) (z : Nat → Int) (w : World) (h : NumsAt w v n z) (hn : n ≤ 100000) :
    Calls Tryd.prog 12 #[v] w fun e w' => ∃ v', e = .returned v' ∧ w'.ownsRow w.heap.size 3 1 v' n (numCells z n) ∧ Below w.heap.size w w' := by
  rcases h with ⟨ad, cap, rfl, rfl⟩ | ⟨b, o, cap, rfl, h0, hr⟩
  · go_enter Tryd.func12, Tryd.ntmps12
    go_wp2_with (at_builtin; go_must (refine wpList_append_zeroI rfl _ _ rfl ad cap rfl rfl ?_))
    go_ret
    exact ⟨_, rfl, ⟨rfl, Or.inl ⟨rfl, rfl⟩⟩, Below.refl _ _⟩
  · obtain ⟨i, hi, hi2⟩ := Option.map_eq_some_iff.1 Tryd.infoInt
    obtain ⟨hz, hsz, hby⟩ : i.zero = some (.int .i64 0) ∧ i.size = 1 ∧ i.bytes = 8 := by simpa using hi2
    have HR := Hid.mk' hr
    have HI : Hid (Tryd.prog.info? 3 = some i) := hi
    have HZ : Hid (i.zero = some (.int .i64 0)) := hz
    have HS : Hid (i.size = 1) := hsz
    have HY : Hid (i.bytes = 8) := hby
    have HC : Hid (∀ u, u ∈ numCells z n → u.oneCell' = true) := fun u hu => by obtain ⟨x, rfl⟩ := numCells_ints z n u hu; rfl
    have HL : Hid ((numCells z n).length = n * 1) := by show _ = _; rw [numCells_length, Nat.mul_one]
    clear hr hi2 hi hz hsz hby
    go_enter Tryd.func12, Tryd.ntmps12
    go_wp2_with (at_builtin; go_must (refine wpList_append_lies _ rfl _ _ _ rfl w.heap.size 3 i _ 1 8 Tryd.underlying22 HI.out HZ.out HS.out HY.out rfl (by omega) (.slice none 0 0) 0 [] rfl ⟨rfl, Or.inl ⟨rfl, rfl⟩⟩ ⟨b, o, none⟩ n cap (numCells z n) rfl HL.out (fun j u hu => numCells_news HR.out j u hu) HC.out h0 (by unfold maxLen; omega) (by omega) (by simp) _ rfl ?_; intro g cap' w1 hown hgrow hat hlt; have HOWN := Hid.mk' hown; have HG := Hid.mk' hgrow; clear hown hgrow hat))
    go_ret
    exact ⟨_, rfl, by simpa using HOWN.out, (Below.refl _ _).grown HG.out (Nat.le_refl _) (fun k hk => by cases hk)⟩
theorem ints_any (v : Value) (n : Nat) (z : Nat → Int) (w : World) (h : NumsAt w v n z) (hn : n ≤ 100000) :
    Calls Tryd.prog 12 #[v] w fun e w' => ∃ v', e = .returned v' ∧ NumsAt w' v' n z ∧ Below w.heap.size w w' := by
  refine (ints_row v n z w h hn).mono ?_
  rintro e w' ⟨v', rfl, h1, h2⟩
  exact ⟨v', rfl, numsAt_own h1, h2⟩
end Go.Proofs.YtgfejijaipggeaaDoor

/- The law ArithInterval. -/
namespace Go.Proofs.YtgfejijaipggeaaDoor
open Go.RowKit

theorem ints_full (v : Value) (n : Nat) (z : Nat → Int) (w : World) (h : NumsAt w v n z) (hn : n ≤ 100000) :
    Calls Tryd.prog 12 #[v] w fun e w' => ∃ v', e = .returned v' ∧ NumsAt w' v' n z ∧ (0 < n → ∃ b o cap, v' = .slice (some ⟨b, o, none⟩) n cap ∧ n ≤ cap ∧ RowAt w' b o n z) ∧ Below w.heap.size w w' := by
  refine (ints_row v n z w h hn).mono ?_
  rintro e w' ⟨v', rfl, h1, h2⟩
  refine ⟨v', rfl, numsAt_own h1, fun h0 => ?_, h2⟩
  rcases h1.2 with ⟨hv, h3⟩ | ⟨g, cap, cur, hv, _, _, hc, _⟩
  · omega
  · subst hv
    exact ⟨g, 0, cap, rfl, hc, rowAt_of_row h1⟩
def briefB (n m : Nat) : Bool := decide (n ≤ 100) && (decide (m ≤ 24) || (decide (200 < m) && decide (m ≤ 1000)))
set_option maxRecDepth 100000 in
theorem brief_any (ad ad' : Option Addr) (n cap m cap' : Nat) (w : World) (_ : n ≤ 9223372036854775807) (_ : m ≤ 9223372036854775807) :
    Calls Tryd.prog 7 #[.slice ad n cap, .slice ad' m cap'] w fun e w' => e = .returned (.bool (briefB n m)) ∧ w' = w := by
  by_cases h1 : n ≤ 100
  · have h1I : (n : Int) ≤ 100 := by omega
    by_cases h2 : m ≤ 24
    · have h2I : (m : Int) ≤ 24 := by omega
      have HB : Hid (briefB n m = true) := by show _ = _; unfold briefB; rw [decide_eq_true h1, decide_eq_true h2]; rfl
      go_enter Tryd.func7, Tryd.ntmps7
      go_wp2_with fail
      go_ret
      exact ⟨by rw [HB.out]; rfl, rfl⟩
    · have h2I : ¬ (m : Int) ≤ 24 := by omega
      by_cases h3 : 200 < m
      · have h3I : (200 : Int) < (m : Int) := by omega
        by_cases h4 : m ≤ 1000
        · have h4I : (m : Int) ≤ 1000 := by omega
          have HB : Hid (briefB n m = true) := by show _ = _; unfold briefB; rw [decide_eq_true h1, decide_eq_true h3, decide_eq_true h4]; simp
          go_enter Tryd.func7, Tryd.ntmps7
          go_wp2_with fail
          go_ret
          exact ⟨by rw [HB.out]; rfl, rfl⟩
        · have h4I : ¬ (m : Int) ≤ 1000 := by omega
          have HB : Hid (briefB n m = false) := by show _ = _; unfold briefB; rw [decide_eq_true h1, decide_eq_false h2, decide_eq_false h4]; simp
          go_enter Tryd.func7, Tryd.ntmps7
          go_wp2_with fail
          go_ret
          exact ⟨by rw [HB.out]; rfl, rfl⟩
      · have h3I : ¬ (200 : Int) < (m : Int) := by omega
        have HB : Hid (briefB n m = false) := by show _ = _; unfold briefB; rw [decide_eq_true h1, decide_eq_false h2, decide_eq_false h3]; simp
        go_enter Tryd.func7, Tryd.ntmps7
        go_wp2_with fail
        go_ret
        exact ⟨by rw [HB.out]; rfl, rfl⟩
  · have h1I : ¬ (n : Int) ≤ 100 := by omega
    have HB : Hid (briefB n m = false) := by show _ = _; unfold briefB; rw [decide_eq_false h1]; rfl
    go_enter Tryd.func7, Tryd.ntmps7
    go_wp2_with fail
    go_ret
    exact ⟨by rw [HB.out]; rfl, rfl⟩
theorem briefB_true {n m : Nat} (h : briefB n m = true) : n ≤ 100 ∧ (m ≤ 24 ∨ 200 < m ∧ m ≤ 1000) := by
  unfold briefB at h
  simpa using h

/-- Two numbers in a block. -/
structure PairAt (w : World) (b : Nat) (x y : Int) : Prop where
  c0 : w.cell? ⟨b, 0, none⟩ = some (.int .i64 x)
  c1 : w.cell? ⟨b, 1, none⟩ = some (.int .i64 y)
  f0 : w.frozen? ⟨b, 0, none⟩ = false
  f1 : w.frozen? ⟨b, 1, none⟩ = false
theorem PairAt.later {w w' : World} {b : Nat} {x y : Int} (h : PairAt w b x y) (hb : Below w.heap.size w w') : PairAt w' b x y :=
  ⟨by rw [hb.cell (cell_lt h.c0)]; exact h.c0, by rw [hb.cell (cell_lt h.c1)]; exact h.c1, by rw [hb.frozen (show b < w.heap.size from cell_lt h.c0)]; exact h.f0, by rw [hb.frozen (show b < w.heap.size from cell_lt h.c0)]; exact h.f1⟩
theorem PairAt.fresh (w : World) (x y : Int) (t : TypeId) : PairAt (w.alloc (.cells #[.int .i64 x, .int .i64 y] t)) w.heap.size x y := ⟨by simp, by simp, by simp, by simp⟩
theorem PairAt.freshAt (w : World) (x y : Int) (t : TypeId) {b : Nat} (hb : b = w.heap.size) : PairAt (w.alloc (.cells #[.int .i64 x, .int .i64 y] t)) b x y := by subst hb; exact PairAt.fresh w x y t
theorem PairAt.put {w : World} {b : Nat} {x y : Int} (h : PairAt w b x y) (x' y' : Int) : PairAt (put2 w b (.int .i64 x') (.int .i64 y')) b x' y' := by
  have hc := put2_cell (.int .i64 x') (.int .i64 y') h.c0 h.c1
  exact ⟨by rw [hc, if_neg (by simp), if_pos rfl], by rw [hc, if_pos rfl], by unfold put2; rw [World.frozen?_setCell, World.frozen?_setCell]; exact h.f0, by unfold put2; rw [World.frozen?_setCell, World.frozen?_setCell]; exact h.f1⟩
theorem PairAt.aside {w : World} {b b2 : Nat} {x y x2 y2 : Int} (h : PairAt w b x y) (h2 : PairAt w b2 x2 y2) (hne : b ≠ b2) (v v' : Value) : PairAt (put2 w b2 v v') b x y := by
  have hc := put2_cell v v' h2.c0 h2.c1
  have e : ∀ j k, (⟨b, j, none⟩ : Addr) ≠ ⟨b2, k, none⟩ := fun j k e => hne (congrArg Addr.block e)
  exact ⟨by rw [hc, if_neg (e _ _), if_neg (e _ _)]; exact h.c0, by rw [hc, if_neg (e _ _), if_neg (e _ _)]; exact h.c1, by unfold put2; rw [World.frozen?_setCell, World.frozen?_setCell]; exact h.f0, by unfold put2; rw [World.frozen?_setCell, World.frozen?_setCell]; exact h.f1⟩
/-- Lowest terms of numbers from 0 on. -/
theorem lowN_nat (M x : Nat) : lowN M (x : Int) = ((x / Nat.gcd x M : Nat) : Int) := by
  unfold lowN lowG
  rw [Int.natAbs_natCast]
  exact (Int.ofNat_tdiv x _).symm
theorem lowD_nat (M x : Nat) : lowD M (x : Int) = M / Nat.gcd x M := by
  unfold lowD lowG
  rw [Int.natAbs_natCast]
theorem msgE_none {z : Nat → Int} {n m : Nat} {l : Nat → Int} (h : (msgE z n m l).1 = 0) : msgE z n m l = (0, -1) := by
  unfold msgE at h ⊢
  split at h
  · simp at h
  · split at h
    · simp at h
    · split at h
      · simp at h
      · rename_i h1 h2 h3
        rw [if_neg h1, if_neg h2, if_neg h3]
theorem RTold_low (v : Value) (N D : Nat) (w : World) (h : RatioAt w v (lowN D (N : Int)) (lowD D (N : Int))) (hD : 0 < D) (hN : N ≤ D) (hR : D < 1000000 ^ 20) :
    Calls Tryd.prog 37 #[v] w fun e w' => e = .returned (if canTell N D = true then .tuple #[fracV N D, .bool true] else .tuple #[zeroF, .bool false]) ∧ Below w.heap.size w w' := by
  have hr := low_room hD hN hR
  rw [lowN_nat, lowD_nat, Int.natAbs_natCast] at hr
  rw [lowN_nat, lowD_nat] at h
  by_cases hc : canTell N D = true
  · rw [if_pos hc]
    have h2 := of_decide_eq_true hc
    exact RTold_ok v _ _ w h h2.1 h2.2
  · rw [if_neg hc]
    have h2 := of_decide_eq_false (by simpa using hc : canTell N D = false)
    exact RTold_not v _ _ w h hr.1 hr.2 (by omega)
theorem four_boxes (w : World) (x1 y1 x2 y2 x3 y3 x4 y4 : Int) {W : World} (hW : (((w.alloc (.cells #[.int .i64 x1, .int .i64 y1] 38)).alloc (.cells #[.int .i64 x2, .int .i64 y2] 38)).alloc (.cells #[.int .i64 x3, .int .i64 y3] 38)).alloc (.cells #[.int .i64 x4, .int .i64 y4] 38) = W) :
    Below w.heap.size w W ∧ PairAt W w.heap.size x1 y1 ∧ PairAt W (w.heap.size + 1) x2 y2 ∧ PairAt W (w.heap.size + 1 + 1) x3 y3 ∧ PairAt W (w.heap.size + 1 + 1 + 1) x4 y4 := by
  have b : ∀ (V : World) (o : Obj), Below V.heap.size V (V.alloc o) := fun V o => (Below.refl _ _).alloc (Nat.le_refl _) _
  subst hW
  exact ⟨below_chain (below_chain (below_chain (b _ _) (b _ _)) (b _ _)) (b _ _), (((PairAt.fresh _ _ _ _).later (b _ _)).later (b _ _)).later (b _ _), ((PairAt.freshAt _ _ _ _ (by simp)).later (b _ _)).later (b _ _), (PairAt.freshAt _ _ _ _ (by simp)).later (b _ _), PairAt.freshAt _ _ _ _ (by simp)⟩
theorem two_ratios (w : World) {t1 t2 : Bool} {a1 a1' a2 a2' : Option Addr} {l1 c1 l1' c1' l2 c2 l2' c2' : Nat} {n1 n2 : Int} {d1 d2 : Nat} (h1 : RatioAt w (.agg #[.bool t1, .slice a1 l1 c1, .slice a1' l1' c1']) n1 d1) (h2 : RatioAt w (.agg #[.bool t2, .slice a2 l2 c2, .slice a2' l2' c2']) n2 d2) {W : World}
    (hW : (w.alloc (.cells #[.bool t1, .slice a1 l1 c1, .slice a1' l1' c1'] 45)).alloc (.cells #[.bool t2, .slice a2 l2 c2, .slice a2' l2' c2'] 45) = W) :
    Below w.heap.size w W ∧ RBox W w.heap.size t1 a1 l1 c1 a1' l1' c1' n1 d1 ∧ RBox W (w.heap.size + 1) t2 a2 l2 c2 a2' l2' c2' n2 d2 := by
  have b : ∀ (V : World) (o : Obj), Below V.heap.size V (V.alloc o) := fun V o => (Below.refl _ _).alloc (Nat.le_refl _) _
  subst hW
  refine ⟨below_chain (b _ _) (b _ _), (RBox.fresh h1).later (b _ _), ?_⟩
  have h3 := RBox.fresh (h2.later (b w (.cells #[.bool t1, .slice a1 l1 c1, .slice a1' l1' c1'] 45)))
  rw [show (w.alloc (.cells #[.bool t1, .slice a1 l1 c1, .slice a1' l1' c1'] 45)).heap.size = w.heap.size + 1 by simp] at h3
  exact h3

end Go.Proofs.YtgfejijaipggeaaDoor
