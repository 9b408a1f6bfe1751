/- zero.Alone with its errors; the closed fact at the head of the laws of chapter 9. -/
import Derived.Test.YtojljmapdafmaaaDoorZeAl2
import Derived.Test.YtojljmapdafmaaaDoorZeGr
import Derived.Test.YtojljmapdafmaaaDoorSameN
namespace Go.Proofs.YtojljmapdafmaaaDoor
open Go.RowKit

def nP (p : Nat → Int) (i : Nat) : Nat := (p i).toNat
/-- What fits in a graph: bits. -/
def okG (m : Nat) (p q : Nat → Int) : Nat → Nat → Bool := okF (apF (nP p) (nP q) m)
/-- What Alone answers. -/
def alL (N : Int) (m : Nat) (p q : Nat → Int) : List Nat := if grE N m p q = 0 then aloneL (okG m p q) N.toNat else []
theorem numsAt_dig {w : World} {base : Nat} {v : Value} {l : List Nat} (h : w.ownsRow base 3 1 v l.length (digCells l)) : NumsAt w v l.length (fun i => ((l.getD i 0 : Nat) : Int)) := by
  obtain ⟨hl, hr⟩ := h
  rcases hr with ⟨rfl, h0⟩ | ⟨g, cap, cur, rfl, hg, hh, h1, h2, h3, h4⟩
  · exact Or.inl ⟨none, 0, by rfl, h0⟩
  · rcases Nat.eq_zero_or_pos l.length with h0 | hpos
    · exact Or.inl ⟨_, _, by rw [h0], h0⟩
    · refine Or.inr ⟨g, 0, cap, rfl, hpos, fun i hi => ?_⟩
      have e1 : w.cell? ⟨g, 0 + i, none⟩ = cur.toList[i]? := by simp [World.cell?, hh]
      have e2 : cur.toList[i]? = (digCells l)[i]? := by rw [← h4, List.getElem?_take_of_lt (by omega)]
      rw [e1, e2]
      simp [digCells, hi]
theorem ed_nat {N : Int} {m : Nat} {p q : Nat → Int} (h : grE N m p q = 0) : ∀ k, k < m → nP p k < nP q k ∧ nP q k < N.toNat ∧ p k = ((nP p k : Nat) : Int) ∧ q k = ((nP q k : Nat) : Int) := fun k hk => by
  obtain ⟨h1, h2, h3⟩ := edB_parts (edsB_at (grE_zero h).2.2 k hk)
  unfold nP
  omega
theorem EdAt.congr {w : World} {v : Value} {m : Nat} {p q p' q' : Nat → Int} (h : EdAt w v m p q) (hp : ∀ k, k < m → p k = p' k ∧ q k = q' k) : EdAt w v m p' q' := by
  obtain ⟨ad, cap, rfl, h⟩ := h
  refine ⟨ad, cap, rfl, h.imp id ?_⟩
  rintro ⟨b, o, rfl, ht⟩
  exact ⟨b, o, rfl, fun k hk => ⟨by rw [← (hp k hk).1]; exact (ht k hk).1, by rw [← (hp k hk).2]; exact (ht k hk).2⟩⟩

set_option maxRecDepth 100000 in
set_option maxHeartbeats 4000000 in
theorem Alone_any (a : Nat → Addr) (N : Int) (m : Nat) (ev : Value) (p q : Nat → Int) (w : World) (hE : Errs w a) (hT : TzAt w) (hG : EdAt w ev m p q) (hm : m ≤ 1000) :
    Calls Tryd.prog 21 #[.agg #[.int .i64 N, ev]] w fun e w' => ∃ v, e = .returned (.tuple #[v, errV a (grE N m p q)]) ∧ w'.ownsRow w.heap.size 3 1 v (alL N m p q).length (digCells (alL N m p q)) ∧ Below w.heap.size w w' := by
  obtain ⟨ad, cap, rfl, -⟩ := id hG
  obtain ⟨w1, hw1⟩ : ∃ w1, w1 = w.alloc (.cells #[.int .i64 N, .slice ad m cap] 33) := ⟨_, rfl⟩
  have hb1 : Below w.heap.size w w1 := by rw [hw1]; exact (Below.refl _ _).alloc (Nat.le_refl _) _
  have hc0 : w1.cell? ⟨w.heap.size, 0, none⟩ = some (.int .i64 N) := by rw [hw1]; go_simp
  have hc1 : w1.cell? ⟨w.heap.size, 1, none⟩ = some (.slice ad m cap) := by rw [hw1]; go_simp
  have HC : Hid (∀ W, Below w1.heap.size w1 W → W.cell? ⟨w.heap.size, 0, none⟩ = some (.int .i64 N) ∧ W.cell? ⟨w.heap.size, 1, none⟩ = some (.slice ad m cap)) := fun W hb => ⟨by rw [hb.cell (cell_lt hc0)]; exact hc0, by rw [hb.cell (cell_lt hc1)]; exact hc1⟩
  have HV := Hid.mk' (ZValid_any a N m _ p q w1 (hE.below hb1) (hG.later hb1) hm)
  have HW1 := Hid.mk' hw1
  have HB1 := Hid.mk' hb1
  by_cases h0 : grE N m p q = 0
  · obtain ⟨n, rfl⟩ : ∃ n : Nat, N = n := ⟨N.toNat, by have := grE_zero h0; omega⟩
    have hn : n ≤ 16 := by have := grE_zero h0; omega
    have hed := ed_nat h0
    have HAL : Hid (∀ W, Below w1.heap.size w1 W → Calls Tryd.prog 34 #[.agg #[.int .i64 n, .slice ad m cap]] W fun e w' => ∃ v, e = .returned v ∧ w'.ownsRow W.heap.size 3 1 v (alL n m p q).length (digCells (alL n m p q)) ∧ Below W.heap.size W w') := fun W hb => by
      have h2 := alone_any n m (.slice ad m cap) (nP p) (nP q) W (((hG.later hb1).later hb).congr fun k hk => ⟨(hed k hk).2.2.1, (hed k hk).2.2.2⟩) hn hm (fun k hk => ⟨(hed k hk).1, by have := (hed k hk).2.1; simpa using this⟩) ((hT.below hb1).below hb)
      have e : alL n m p q = aloneL (okF (apF (nP p) (nP q) m)) n := by rw [alL, if_pos h0]; rfl
      rw [e]
      exact h2
    have HR : Hid (errV a (grE (n : Int) m p q) = .nilIface) := by show _ = _; rw [h0]; rfl
    rw [HR.out] at HV ⊢
    clear hE hT hG hb1 hw1 h0 hed HR
    go_enter Tryd.func21, Tryd.ntmps21
    go_upto_region 1 with fail
    rw [← HW1.out]
    go_wp2_with fail
    refine HV.out.mono ?_
    rintro e w2 ⟨rfl, hb2⟩
    obtain ⟨d0, d1⟩ := HC.out _ hb2
    have HB2 := Hid.mk' hb2
    clear hc0 hc1 HV hb2
    go_wp2_with fail
    refine (HAL.out _ HB2.out).mono ?_
    rintro e w3 ⟨v, rfl, h3, hb3⟩
    have HE : Hid (w3.ownsRow w.heap.size 3 1 v (alL n m p q).length (digCells (alL n m p q)) ∧ Below w.heap.size w w3) := ⟨h3.mono (Nat.le_trans HB1.out.size HB2.out.size), HB1.out.trans ((HB2.out.trans (hb3.mono HB2.out.size)).mono HB1.out.size)⟩
    obtain ⟨a7, c7, rfl, _⟩ := row_shape h3
    clear h3 hb3 d0 d1
    go_wp2_with fail
    go_ret2
    exact ⟨_, rfl, HE.out.1, HE.out.2⟩
  · have HAE : Hid (alL N m p q = []) := if_neg h0
    have hR := errV_pos a h0
    rw [HAE.out, hR]
    rw [hR] at HV
    generalize a (grE N m p q - 1) = A at *
    clear hE hT hG hb1 hw1 h0 hR
    go_enter Tryd.func21, Tryd.ntmps21
    go_upto_region 1 with fail
    rw [← HW1.out]
    go_wp2_with fail
    refine HV.out.mono ?_
    rintro e w2 ⟨rfl, hb2⟩
    have HB2 := Hid.mk' hb2
    clear hc0 hc1 HV hb2
    go_wp2_with fail
    go_ret2
    exact ⟨_, rfl, ⟨rfl, Or.inl ⟨rfl, rfl⟩⟩, HB1.out.trans (HB2.out.mono HB1.out.size)⟩

/-- The ring of five. -/
def p5 (i : Nat) : Int := [0, 0, 1, 2, 3].getD i 0
def q5 (i : Nat) : Int := [1, 4, 2, 3, 4].getD i 0
theorem grE5 : grE 5 5 p5 q5 = 0 := by decide +kernel
theorem alL5 : alL 5 5 p5 q5 = [0, 2] := by decide +kernel

set_option maxRecDepth 100000 in
set_option maxHeartbeats 4000000 in
theorem pentagon_any (a : Nat → Addr) (w : World) (hE : Errs w a) (hT : TzAt w) :
    Calls Tryd.prog 7 #[] w fun e w' => e = .returned (.bool true) ∧ Below w.heap.size w w' := by
  obtain ⟨W0, hW0⟩ : ∃ W0, W0 = ((w.alloc (.cells #[.int .i64 0, .int .i64 1, .int .i64 0, .int .i64 4, .int .i64 1, .int .i64 2, .int .i64 2, .int .i64 3, .int .i64 3, .int .i64 4] 51)).alloc (.cells #[.int .i64 5, .slice (some ⟨w.heap.size, 0, none⟩) 5 5] 33)) := ⟨_, rfl⟩
  have hb0 : Below w.heap.size w W0 := by rw [hW0]; exact ((Below.refl _ _).alloc (Nat.le_refl _) _).alloc (by simp) _
  have hG : EdAt W0 (.slice (some ⟨w.heap.size, 0, none⟩) 5 5) 5 p5 q5 := by
    refine ⟨_, _, rfl, Or.inr ⟨w.heap.size, 0, rfl, fun i hi => ?_⟩⟩
    rw [hW0]
    rcases (show i = 0 ∨ i = 1 ∨ i = 2 ∨ i = 3 ∨ i = 4 by omega) with rfl | rfl | rfl | rfl | rfl <;> (constructor <;> (go_simp; rfl))
  have hA := Alone_any a 5 5 _ p5 q5 W0 (hE.below hb0) (hT.below hb0) hG (by decide)
  rw [grE5, alL5, errV_zero] at hA
  have HA := Hid.mk' hA
  have HB0 := Hid.mk' hb0
  have HW0 := Hid.mk' hW0
  clear hE hT hA hb0 hG hW0
  go_enter Tryd.func7, Tryd.ntmps7
  go_wp2_with fail
  rw [← HW0.out]
  refine HA.out.mono ?_
  rintro e w2 ⟨v, rfl, h2, hb2⟩
  have HB2 : Hid (Below w.heap.size w w2) := HB0.out.trans (hb2.mono HB0.out.size)
  have HN := Hid.mk' (numsAt_dig h2)
  obtain ⟨a7, c7, rfl, _⟩ := row_shape h2
  clear h2 hb2 HA HW0 HB0
  have hb3 : Below w2.heap.size w2 (w2.alloc (.cells #[.int .i64 0, .int .i64 2] 3)) := (Below.refl _ _).alloc (Nat.le_refl _) _
  have hk : NumsAt (w2.alloc (.cells #[.int .i64 0, .int .i64 2] 3)) (.slice (some ⟨w2.heap.size, 0, none⟩) 2 2) 2 (fun i => (([0, 2].getD i 0 : Nat) : Int)) := by
    refine Or.inr ⟨_, 0, 2, rfl, by decide, fun i hi => ?_⟩
    rcases (show i = 0 ∨ i = 1 by omega) with rfl | rfl <;> go_simp
  have HSI := Hid.mk' (SameInts_any _ _ 2 _ _ (HN.out.later hb3) hk (by decide))
  have HB3 := Hid.mk' (HB2.out.trans (hb3.mono HB2.out.size))
  clear hb3 hk HN
  go_wp2_with fail
  refine HSI.out.mono ?_
  rintro e w4 ⟨rfl, hb4⟩
  have HB4 := Hid.mk' (HB3.out.trans (hb4.mono HB3.out.size))
  clear hb4 HSI
  go_wp2_with fail
  go_ret
  exact ⟨rfl, HB4.out⟩
end Go.Proofs.YtojljmapdafmaaaDoor
