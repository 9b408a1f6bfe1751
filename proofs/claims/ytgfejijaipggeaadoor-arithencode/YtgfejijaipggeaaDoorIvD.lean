/- The document's interval of a message. -/
import Derived.Test.YtgfejijaipggeaaDoorWideMath
import Derived.Test.YtgfejijaipggeaaDoorCutP
import Derived.Test.YtgfejijaipggeaaDoorPlus
namespace Go.Proofs.YtgfejijaipggeaaDoor
open Go.RowKit

theorem RatioAt.sl {w : World} {v : Value} {n : Int} {d : Nat} (h : RatioAt w v n d) : ∃ s ad l cap ad' l' cap', v = .agg #[.bool s, .slice ad l cap, .slice ad' l' cap'] := by
  obtain ⟨u, q, rfl, h1, h2⟩ := h
  obtain ⟨ad, l, cap, rfl, _⟩ := h1.len
  obtain ⟨ad', l', cap', rfl, _⟩ := h2.len
  exact ⟨_, _, _, _, _, _, _, rfl⟩
theorem IntsAt.setA {w : World} {u y : Value} {l : List Nat} {p : Addr} {v : Value} (h : IntsAt w u l) (hc : w.cell? p = some v) (hv : ∀ x, v ≠ .int .i64 x) : IntsAt (w.setCell p y) u l := by
  rcases h with h | ⟨b, o, cap, h1, h2, h3, h4⟩
  · exact Or.inl h
  · refine Or.inr ⟨b, o, cap, h1, h2, h3, fun i hi => ?_⟩
    rw [World.cell?_setCell_other _ _ _ _ (fun e => ?_)]
    · exact h4 i hi
    · have := h4 i hi
      rw [← e, hc] at this
      exact hv _ (Option.some.inj this)
theorem BigAt.setA {w : World} {u y : Value} {n : Nat} {p : Addr} {v : Value} (h : BigAt w u n) (hc : w.cell? p = some v) (hv : ∀ x, v ≠ .int .i64 x) : BigAt (w.setCell p y) u n := by
  obtain ⟨l, h1, h2, h3, h4⟩ := h
  exact ⟨l, h1, h2, h3, h4.setA hc hv⟩
theorem RatioAt.setA {w : World} {u y : Value} {n : Int} {d : Nat} {p : Addr} {v : Value} (h : RatioAt w u n d) (hc : w.cell? p = some v) (hv : ∀ x, v ≠ .int .i64 x) : RatioAt (w.setCell p y) u n d := by
  obtain ⟨a, b, h1, h2, h3⟩ := h
  exact ⟨a, b, h1, h2.setA hc hv, h3.setA hc hv⟩
def put3 (w : World) (b : Nat) (x y z : Value) : World := ((w.setCell ⟨b, 0, none⟩ x).setCell ⟨b, 1, none⟩ y).setCell ⟨b, 2, none⟩ z
/-- A variable that holds a fraction of the document. -/
structure RBox (w : World) (b : Nat) (s : Bool) (x : Option Addr) (l c : Nat) (x' : Option Addr) (l' c' : Nat) (n : Int) (d : Nat) : Prop where
  c0 : w.cell? ⟨b, 0, none⟩ = some (.bool s)
  c1 : w.cell? ⟨b, 1, none⟩ = some (.slice x l c)
  c2 : w.cell? ⟨b, 2, none⟩ = some (.slice x' l' c')
  rat : RatioAt w (.agg #[.bool s, .slice x l c, .slice x' l' c']) n d
  fz : ∀ j, j < 3 → w.frozen? ⟨b, j, none⟩ = false
theorem RBox.later {w w' : World} {b : Nat} {s : Bool} {x : Option Addr} {l c : Nat} {x' : Option Addr} {l' c' : Nat} {n : Int} {d : Nat} (h : RBox w b s x l c x' l' c' n d) (hb : Below w.heap.size w w') : RBox w' b s x l c x' l' c' n d :=
  ⟨by rw [hb.cell (cell_lt h.c0)]; exact h.c0, by rw [hb.cell (cell_lt h.c1)]; exact h.c1, by rw [hb.cell (cell_lt h.c2)]; exact h.c2, h.rat.later hb, fun j hj => by rw [hb.frozen (show b < w.heap.size from cell_lt h.c0)]; exact h.fz j hj⟩
theorem RatioAt.put3 {w : World} {b : Nat} {s : Bool} {x : Option Addr} {l c : Nat} {x' : Option Addr} {l' c' : Nat} {n m : Int} {d e : Nat} {v : Value} (h : RBox w b s x l c x' l' c' n d) (hr : RatioAt w v m e) (y0 y1 y2 : Value) : RatioAt (put3 w b y0 y1 y2) v m e := by
  obtain ⟨⟨g0, g1⟩, _, _⟩ := put_three' y0 y1 y2 h.c0 h.c1 h.c2
  unfold Go.Proofs.YtgfejijaipggeaaDoor.put3
  exact ((hr.setA h.c0 (by simp)).setA g0 (by simp)).setA g1 (by simp)
theorem RBox.put {w : World} {b : Nat} {s t : Bool} {x y : Option Addr} {l c m q : Nat} {x' y' : Option Addr} {l' c' m' q' : Nat} {n n2 : Int} {d d2 : Nat} (h : RBox w b s x l c x' l' c' n d) (hr : RatioAt w (.agg #[.bool t, .slice y m q, .slice y' m' q']) n2 d2) : RBox (put3 w b (.bool t) (.slice y m q) (.slice y' m' q')) b t y m q y' m' q' n2 d2 := by
  obtain ⟨_, ⟨g2, g3⟩, g4⟩ := put_three' (.bool t) (.slice y m q) (.slice y' m' q') h.c0 h.c1 h.c2
  exact ⟨g2, g3, g4, hr.put3 h _ _ _, fun j hj => by unfold Go.Proofs.YtgfejijaipggeaaDoor.put3; rw [World.frozen?_setCell, World.frozen?_setCell, World.frozen?_setCell]; exact h.fz j hj⟩
theorem RBox.aside {w : World} {b b2 : Nat} {s s2 : Bool} {x x2 : Option Addr} {l c l2 c2 : Nat} {x' x2' : Option Addr} {l' c' l2' c2' : Nat} {n n2 : Int} {d d2 : Nat} (h : RBox w b s x l c x' l' c' n d) (h2 : RBox w b2 s2 x2 l2 c2 x2' l2' c2' n2 d2) (hne : b2 ≠ b) (y0 y1 y2 : Value) : RBox (put3 w b2 y0 y1 y2) b s x l c x' l' c' n d := by
  have hcell : ∀ j, (put3 w b2 y0 y1 y2).cell? ⟨b, j, none⟩ = w.cell? ⟨b, j, none⟩ := fun j => by
    unfold Go.Proofs.YtgfejijaipggeaaDoor.put3
    rw [World.cell?_setCell_other _ _ _ _ (fun e => hne (congrArg Addr.block e)), World.cell?_setCell_other _ _ _ _ (fun e => hne (congrArg Addr.block e)), World.cell?_setCell_other _ _ _ _ (fun e => hne (congrArg Addr.block e))]
  exact ⟨by rw [hcell]; exact h.c0, by rw [hcell]; exact h.c1, by rw [hcell]; exact h.c2, h.rat.put3 h2 _ _ _, fun j hj => by unfold Go.Proofs.YtgfejijaipggeaaDoor.put3; rw [World.frozen?_setCell, World.frozen?_setCell, World.frozen?_setCell]; exact h.fz j hj⟩
theorem big_none (w : World) : BigAt w (.slice none 0 0) 0 := ⟨[], fun i hi => by simp at hi, fun i hi => by simp at hi, rfl, Or.inl ⟨_, _, rfl, rfl⟩⟩
theorem RBox.fresh {w : World} {s : Bool} {x : Option Addr} {l c : Nat} {x' : Option Addr} {l' c' : Nat} {n : Int} {d : Nat} (hr : RatioAt w (.agg #[.bool s, .slice x l c, .slice x' l' c']) n d) : RBox (w.alloc (.cells #[.bool s, .slice x l c, .slice x' l' c'] 45)) w.heap.size s x l c x' l' c' n d :=
  ⟨by simp, by simp, by simp, hr.later ((Below.refl _ _).alloc (Nat.le_refl _) _), fun j hj => by rcases (show j = 0 ∨ j = 1 ∨ j = 2 by omega) with rfl | rfl | rfl <;> simp⟩

/-- The steps, in lowest terms. -/
theorem low_step {M S : Nat} (hM : 0 < M) (hS : 0 < S) (W A : Int) : (lowN M W * lowN S A).tdiv ((Nat.gcd (lowN M W * lowN S A).natAbs (lowD M W * lowD S A) : Nat) : Int) = lowN (M * S) (W * A) ∧ lowD M W * lowD S A / Nat.gcd (lowN M W * lowN S A).natAbs (lowD M W * lowD S A) = lowD (M * S) (W * A) := by
  refine low_same (Nat.mul_pos hM hS) (Nat.mul_pos (lowD_pos hM W) (lowD_pos hS A)) ?_
  have h1 := low_cross hM W
  have h2 := low_cross hS A
  rw [Int.natCast_mul, Int.natCast_mul]
  generalize lowN M W = a at *
  generalize lowN S A = b at *
  generalize (lowD M W : Int) = c at *
  generalize (lowD S A : Int) = e at *
  generalize (M : Int) = m at *
  generalize (S : Int) = s at *
  calc a * b * (m * s) = (a * m) * (b * s) := by grind
    _ = (W * c) * (A * e) := by rw [h1, h2]
    _ = W * A * (c * e) := by grind
theorem low_add {M S : Nat} (hM : 0 < M) (hS : 0 < S) (L X : Int) : (lowN M L * (lowD (M * S) X : Int) + lowN (M * S) X * (lowD M L : Int)).tdiv ((Nat.gcd (lowN M L * (lowD (M * S) X : Int) + lowN (M * S) X * (lowD M L : Int)).natAbs (lowD M L * lowD (M * S) X) : Nat) : Int) = lowN (M * S) (L * S + X) ∧ lowD M L * lowD (M * S) X / Nat.gcd (lowN M L * (lowD (M * S) X : Int) + lowN (M * S) X * (lowD M L : Int)).natAbs (lowD M L * lowD (M * S) X) = lowD (M * S) (L * S + X) := by
  refine low_same (Nat.mul_pos hM hS) (Nat.mul_pos (lowD_pos hM L) (lowD_pos (Nat.mul_pos hM hS) X)) ?_
  have h1 := low_cross hM L
  have h2 := low_cross (Nat.mul_pos hM hS) X
  rw [Int.natCast_mul] at h2
  rw [Int.natCast_mul, Int.natCast_mul]
  generalize lowN M L = a at *
  generalize lowN (M * S) X = b at *
  generalize (lowD M L : Int) = c at *
  generalize (lowD (M * S) X : Int) = e at *
  generalize (M : Int) = m at *
  generalize (S : Int) = s at *
  calc (a * e + b * c) * (m * s) = (a * m) * (e * s) + (b * (m * s)) * c := by grind
    _ = (L * c) * (e * s) + (X * e) * c := by rw [h1, h2]
    _ = (L * s + X) * (c * e) := by grind
theorem low_room {M : Nat} (hM : 0 < M) {x : Nat} (hx : x ≤ M) (hR : M < 1000000 ^ 20) : (lowN M (x : Int)).natAbs < 1000000 ^ 20 ∧ lowD M (x : Int) < 1000000 ^ 20 := by
  have h1 := lowN_le hM (x : Int)
  have h2 := lowD_le M (x : Int)
  rw [Int.natAbs_natCast] at h1
  exact ⟨by omega, by omega⟩
theorem pow_small {S j : Nat} (hS : S ≤ 4096) (hj : j ≤ 25) : S ^ j < 1000000 ^ 20 :=
  Nat.lt_of_le_of_lt (Nat.pow_le_pow_left hS j) (Nat.lt_of_le_of_lt (Nat.pow_le_pow_right (by decide) hj) (by decide))

set_option maxRecDepth 100000 in
set_option maxHeartbeats 8000000 in
theorem IntervalOf_any (b o cap : Nat) (vl : Value) (n m S : Nat) (z l : Nat → Int) (w : World) (hrw : RowAt w b o n z) (hcap : n ≤ cap) (hl : NumsAt w vl m l) (hz : OkW z n) (hn : n ≤ 1000) (hm : m ≤ 24) (hS : sumN z n = (S : Int)) (hli : ∀ i, i < m → 0 ≤ l i ∧ l i < (n : Int)) :
    Calls Tryd.prog 27 #[.slice (some ⟨b, o, none⟩) n cap, vl] w fun e w' => ∃ v1 v2, e = .returned (.tuple #[v1, v2]) ∧ RatioAt w' v1 (lowN (S ^ m) (cutL z l S m : Nat)) (lowD (S ^ m) (cutL z l S m : Nat)) ∧ RatioAt w' v2 (lowN (S ^ m) (cutW z l m : Nat)) (lowD (S ^ m) (cutW z l m : Nat)) ∧ Below w.heap.size w w' := by
  have HLE := Hid.mk' (cut_le hz hS hli)
  have HS6 : Hid (S ≤ 4096 ∧ 0 < S) := by have h1 := hz.le; have h2 := hz.pos; rw [hS] at h1 h2; exact ⟨by omega, by omega⟩
  obtain ⟨al, cl, rfl, hrl⟩ := hl.rowAt
  have HZ := Hid.mk' hz
  have HLI := Hid.mk' hli
  obtain ⟨W0, hW0⟩ : ∃ W0, W0 = (w.alloc (.cells #[.bool false, .slice none 0 0, .slice none 0 0] 45)).alloc (.cells #[.bool false, .slice none 0 0, .slice none 0 0] 45) := ⟨_, rfl⟩
  have hb0 : Below w.heap.size w W0 := by rw [hW0]; exact ((Below.refl _ _).alloc (Nat.le_refl _) _).alloc (by simp) _
  have HRW : Hid (RowAt W0 b o n z) := hrw.later hb0
  have HRL : Hid (∀ i, i < m → ∃ b' o', al = some ⟨b', o', none⟩ ∧ W0.cell? ⟨b', o' + i, none⟩ = some (.int .i64 (l i))) := fun i hi => by
    obtain ⟨b', o', h1, h2⟩ := hrl i hi
    exact ⟨b', o', h1, by rw [hb0.cell (cell_lt h2)]; exact h2⟩
  have HR0 : Hid (∀ q, q < 2 → ∀ W, Below W0.heap.size W0 W → (W.cell? ⟨w.heap.size + q, 0, none⟩ = some (.bool false) ∧ W.cell? ⟨w.heap.size + q, 1, none⟩ = some (.slice none 0 0) ∧ W.cell? ⟨w.heap.size + q, 2, none⟩ = some (.slice none 0 0)) ∧ ∀ j, j < 3 → W.frozen? ⟨w.heap.size + q, j, none⟩ = false) := fun q hq W hb => by
    have hlt : w.heap.size + q < W0.heap.size := by rw [hW0]; simp; omega
    have hc : ∀ j v, (#[Value.bool false, .slice none 0 0, .slice none 0 0] : Array Value)[j]? = some v → W0.cell? ⟨w.heap.size + q, j, none⟩ = some v := fun j v h => by
      rw [hW0]
      rcases (show q = 0 ∨ q = 1 by omega) with rfl | rfl
      · rw [Nat.add_zero, World.cell?_alloc_lt _ _ ⟨w.heap.size, j, none⟩ (by simp), World.cell?_alloc_at _ _ _ _ rfl]; exact h
      · rw [top_cell _ _ _ _ (by simp)]; exact h
    have hf : ∀ j, W0.frozen? ⟨w.heap.size + q, j, none⟩ = false := fun j => by
      rw [hW0]
      rcases (show q = 0 ∨ q = 1 by omega) with rfl | rfl
      · rw [Nat.add_zero, World.frozen?_alloc_old _ _ _ (by simp)]; simp
      · exact top_frozen _ _ _ _ (by simp)
    exact ⟨⟨by rw [hb.cell hlt]; exact hc 0 _ rfl, by rw [hb.cell hlt]; exact hc 1 _ rfl, by rw [hb.cell hlt]; exact hc 2 _ rfl⟩, fun j hj => by rw [hb.frozen hlt]; exact hf j⟩
  have HB0 := Hid.mk' hb0
  have HLT0 : Hid (w.heap.size + 2 ≤ W0.heap.size) := by show _ ≤ _; rw [hW0]; simp
  clear hrw hrl hz hli hl hb0
  have HQ0 := Hid.mk' (fun W => RatioOf_any 0 1 W (by decide) (by decide) (by decide) (by decide))
  have HQ1 := Hid.mk' (fun W => RatioOf_any 1 1 W (by decide) (by decide) (by decide) (by decide))
  go_enter Tryd.func27, Tryd.ntmps27
  go_upto_region 1 with fail
  rw [← hW0]
  clear hW0
  have hcur := Below.refl W0.heap.size W0
  go_wp2_with fail
  refine (HQ0.out _).mono ?_
  rintro e w1 ⟨r, rfl, hr, hb1⟩
  obtain ⟨s1, x1, l1, c1, x1', l1', c1', rfl⟩ := hr.sl
  have HR1 := Hid.mk' (RBox.fresh hr)
  have hcur := below_chain hcur hb1
  have HLT1 := Hid.mk' hcur.size
  have hcur := hcur.alloc hcur.size (.cells #[.bool s1, .slice x1 l1 c1, .slice x1' l1' c1'] 45)
  have HSZ : Hid (w1.heap.size < (w1.alloc (.cells #[.bool s1, .slice x1 l1 c1, .slice x1' l1' c1'] 45)).heap.size) := by show _ < _; simp
  clear hr hb1
  go_wp2_with fail
  generalize w1.alloc (.cells #[.bool s1, .slice x1 l1 c1, .slice x1' l1' c1'] 45) = W1 at *
  generalize w1.heap.size = B1 at *
  refine (HQ1.out _).mono ?_
  rintro e w2 ⟨r, rfl, hr, hb2⟩
  obtain ⟨s2, x2, l2, c2, x2', l2', c2', rfl⟩ := hr.sl
  have HR2 := Hid.mk' (RBox.fresh hr)
  have HSZ2 : Hid (B1 < w2.heap.size) := Nat.lt_of_lt_of_le HSZ.out hb2.size
  have HR1 := Hid.mk' ((HR1.out.later hb2).later ((Below.refl _ _).alloc (Nat.le_refl _) (.cells #[.bool s2, .slice x2 l2 c2, .slice x2' l2' c2'] 45)))
  have hcur := below_chain hcur hb2
  have HCUR := Hid.mk' (hcur.alloc hcur.size (.cells #[.bool s2, .slice x2 l2 c2, .slice x2' l2' c2'] 45))
  clear hr hb2 hcur
  go_wp2_with fail
  generalize w2.alloc (.cells #[.bool s2, .slice x2 l2 c2, .slice x2' l2' c2'] 45) = W2 at *
  generalize w2.heap.size = B2 at *
  have HNE : Hid (B1 ≠ B2) := by have := HSZ2.out; show B1 ≠ B2; omega
  have HLT2 : Hid (W0.heap.size ≤ B2) := by have h1 := HSZ2.out; have h2 := HLT1.out; show _ ≤ _; omega
  clear HQ0 HQ1
  go_loopw [8] (fun t wr => ∃ (k : Nat) (s1 s2 : Bool) (x1 x1' x2 x2' : Option Addr) (l1 c1 l1' c1' l2 c2 l2' c2' : Nat), k ≤ m ∧ t = .int .i64 k ∧ Hid (RBox wr B1 s1 x1 l1 c1 x1' l1' c1' (lowN (S ^ k) (cutL z l S k : Nat)) (lowD (S ^ k) (cutL z l S k : Nat))) ∧ Hid (RBox wr B2 s2 x2 l2 c2 x2' l2' c2' (lowN (S ^ k) (cutW z l k : Nat)) (lowD (S ^ k) (cutW z l k : Nat))) ∧ Hid (Below W0.heap.size W0 wr)) (fun t _ => m - (intOf t).toNat)
  case atStart => exact ⟨0, s1, s2, x1, x1', x2, x2', l1, c1, l1', c1', l2, c2, l2', c2', Nat.zero_le _, rfl, HR1.out, HR2.out, HCUR.out⟩
  case round =>
    clear HR1 HR2 HCUR
    obtain ⟨k, s1, s2, x1, x1', x2, x2', l1, c1, l1', c1', l2, c2, l2', c2', hk, rfl, HR1, HR2, HB⟩ := hrel
    rcases Nat.lt_or_ge k m with h1 | h1
    · have hkm : (k : Int) < (m : Int) := by omega
      obtain ⟨b', o', rfl, hc⟩ := HRL.out k h1
      obtain ⟨q0, q1⟩ := HLI.out k h1
      have hlk : wr.cell? ⟨b', o' + k, none⟩ = some (.int .i64 (l k)) := by rw [HB.out.cell (cell_lt hc)]; exact hc
      obtain ⟨s, hs⟩ : ∃ s : Nat, l k = (s : Int) := ⟨(l k).toNat, by omega⟩
      have HNL : Hid (cutL z l S (k + 1) = cutL z l S k * S + cutW z l k * (sumN z s).toNat) := by
        show cutL z l S k * S + cutW z l k * (sumN z (l k).toNat).toNat = _
        rw [hs, Int.toNat_natCast]
      have HNW : Hid (cutW z l (k + 1) = cutW z l k * (z s).toNat) := by
        show cutW z l k * (z (l k).toNat).toNat = _
        rw [hs, Int.toNat_natCast]
      rw [hs] at hlk q0 q1 hc
      have HLC := Hid.mk' hc
      clear hs hc
      have hsn : s < n := by omega
      have hss : (s : Int) ≤ (cap : Int) := by omega
      have hsnI : (s : Int) < (n : Int) := by omega
      have hc0 : (0 : Int) ≤ (s : Int) := by omega
      have HRS : Hid (RowAt wr b o n z) := HRW.out.later HB.out
      have HZC := Hid.mk' (HRW.out s hsn)
      have hz1 := HRS.out s hsn
      have HPT := Hid.mk' (HZ.out.part (k := s) (by omega))
      have HPZ := Hid.mk' (HZ.out.lt hsn)
      have hSA : ∀ W, Below W0.heap.size W0 W → Calls Tryd.prog 50 #[.slice (some ⟨b, o, none⟩) s cap] W fun e w' => e = .returned (.int .i64 (sumN z s)) ∧ w' = W := fun W hb => Sum_some b o cap s z W (fun i hi => HRW.out.later hb i (by omega)) (fun k hk => by have := HZ.out.part (k := k) (by omega); omega) (fun i hi => by have := HZ.out.lt (i := i) (by omega); omega) (by omega)
      have hSS : ∀ W, Below W0.heap.size W0 W → Calls Tryd.prog 50 #[.slice (some ⟨b, o, none⟩) n cap] W fun e w' => e = .returned (.int .i64 (sumN z n)) ∧ w' = W := fun W hb => Sum_some b o cap n z W (HRW.out.later hb) (fun k hk => by have := HZ.out.part (k := k) hk; omega) (fun i hi => by have := HZ.out.lt (i := i) hi; omega) (by omega)
      rw [hS] at hSS
      obtain ⟨A, hA⟩ : ∃ A : Nat, sumN z s = (A : Int) := ⟨(sumN z s).toNat, by have := HPT.out; omega⟩
      obtain ⟨Z, hZ⟩ : ∃ Z : Nat, z s = (Z : Int) := ⟨(z s).toNat, by have := HPZ.out; omega⟩
      have hAS : A ≤ S ∧ Z ≤ S := by
        have h3 := sumN_mono HZ.out.nn (k := s) (n := n) (by omega)
        have h4 := sumN_ge HZ.out.nn hsn
        rw [hS, hA] at h3
        rw [hS, hZ] at h4
        exact ⟨by omega, by omega⟩
      rw [hA] at hSA HPT HNL
      rw [hZ] at hz1 HPZ HNW HZC
      rw [Int.toNat_natCast] at HNL HNW
      clear hA hZ
      have HSA := Hid.mk' hSA
      have HSS := Hid.mk' hSS
      clear hSA hSS
      have hle := HLE.out k hk
      have hle1 := HLE.out (k + 1) h1
      rw [HNL.out, HNW.out] at hle1
      have hM : 0 < S ^ k := Nat.pow_pos HS6.out.2
      have hM1 : 0 < S ^ k * S := Nat.mul_pos hM HS6.out.2
      have hr0 := pow_small (j := k) HS6.out.1 (by omega)
      have hr1 := pow_small (j := k + 1) HS6.out.1 (by omega)
      rw [Nat.pow_succ] at hr1 hle1
      have HRA : Hid (∀ W, Calls Tryd.prog 21 #[.int .i64 (A : Int), .int .i64 (S : Int)] W fun e w' => ∃ r, e = .returned r ∧ RatioAt w' r (lowN S (A : Int)) (lowD S (A : Int)) ∧ Below W.heap.size W w') := fun W => RatioOf_any (A : Int) S W (by omega) (by have := HPT.out; omega) HS6.out.2 (by have := HS6.out.1; omega)
      have HRZ : Hid (∀ W, Calls Tryd.prog 21 #[.int .i64 (Z : Int), .int .i64 (S : Int)] W fun e w' => ∃ r, e = .returned r ∧ RatioAt w' r (lowN S (Z : Int)) (lowD S (Z : Int)) ∧ Below W.heap.size W w') := fun W => RatioOf_any (Z : Int) S W (by omega) (by have := HPZ.out; omega) HS6.out.2 (by have := HS6.out.1; omega)
      have hS20 : S < 1000000 ^ 20 := Nat.lt_of_le_of_lt HS6.out.1 (by decide)
      have ra := low_room HS6.out.2 hAS.1 hS20
      have rz := low_room HS6.out.2 hAS.2 hS20
      have rL := low_room hM (show cutL z l S k ≤ S ^ k by omega) hr0
      have rW := low_room hM (show cutW z l k ≤ S ^ k by omega) hr0
      have rX := low_room hM1 (show cutW z l k * A ≤ S ^ k * S by omega) hr1
      have HTM : Hid (∀ W u v, RatioAt W u (lowN (S ^ k) ((cutW z l k : Nat) : Int)) (lowD (S ^ k) ((cutW z l k : Nat) : Int)) → RatioAt W v (lowN S (A : Int)) (lowD S (A : Int)) → Calls Tryd.prog 22 #[u, v] W fun e w' => ∃ r, e = .returned r ∧ RatioAt w' r (lowN (S ^ k * S) ((cutW z l k * A : Nat) : Int)) (lowD (S ^ k * S) ((cutW z l k * A : Nat) : Int)) ∧ Below W.heap.size W w') := fun W u v hu hv => by
        have h3 := Times_ratio u v _ _ _ _ 20 W hu hv (lowD_pos hM _) (lowD_pos HS6.out.2 _) rW.1 ra.1 rW.2 ra.2 (by decide)
        have h4 := low_step hM HS6.out.2 ((cutW z l k : Nat) : Int) (A : Int)
        rw [h4.1, h4.2, ← Int.natCast_mul] at h3
        exact h3
      have HTZ : Hid (∀ W u v, RatioAt W u (lowN (S ^ k) ((cutW z l k : Nat) : Int)) (lowD (S ^ k) ((cutW z l k : Nat) : Int)) → RatioAt W v (lowN S (Z : Int)) (lowD S (Z : Int)) → Calls Tryd.prog 22 #[u, v] W fun e w' => ∃ r, e = .returned r ∧ RatioAt w' r (lowN (S ^ k * S) ((cutW z l k * Z : Nat) : Int)) (lowD (S ^ k * S) ((cutW z l k * Z : Nat) : Int)) ∧ Below W.heap.size W w') := fun W u v hu hv => by
        have h3 := Times_ratio u v _ _ _ _ 20 W hu hv (lowD_pos hM _) (lowD_pos HS6.out.2 _) rW.1 rz.1 rW.2 rz.2 (by decide)
        have h4 := low_step hM HS6.out.2 ((cutW z l k : Nat) : Int) (Z : Int)
        rw [h4.1, h4.2, ← Int.natCast_mul] at h3
        exact h3
      have HPL : Hid (∀ W u v, RatioAt W u (lowN (S ^ k) ((cutL z l S k : Nat) : Int)) (lowD (S ^ k) ((cutL z l S k : Nat) : Int)) → RatioAt W v (lowN (S ^ k * S) ((cutW z l k * A : Nat) : Int)) (lowD (S ^ k * S) ((cutW z l k * A : Nat) : Int)) → Calls Tryd.prog 49 #[u, v] W fun e w' => ∃ r, e = .returned r ∧ RatioAt w' r (lowN (S ^ k * S) ((cutL z l S (k + 1) : Nat) : Int)) (lowD (S ^ k * S) ((cutL z l S (k + 1) : Nat) : Int)) ∧ Below W.heap.size W w') := fun W u v hu hv => by
        have h3 := Plus_ratio u v _ _ _ _ 20 W hu hv (lowD_pos hM _) (lowD_pos hM1 _) rL.1 rX.1 rL.2 rX.2 (by decide)
        have h4 := low_add hM HS6.out.2 ((cutL z l S k : Nat) : Int) ((cutW z l k * A : Nat) : Int)
        rw [h4.1, h4.2, ← Int.natCast_mul, ← Int.natCast_add, ← HNL.out] at h3
        exact h3
      clear hle hle1 hr0 hr1 ra rz rL rW rX
      have y0 := HR1.out.c0
      have y1 := HR1.out.c1
      have y2 := HR1.out.c2
      have v0 := HR2.out.c0
      have v1 := HR2.out.c1
      have v2 := HR2.out.c2
      have HKS : Hid (∀ W, Below wr.heap.size wr W → ((W.cell? ⟨B1, 0, none⟩ = some (.bool s1) ∧ W.cell? ⟨B1, 1, none⟩ = some (.slice x1 l1 c1) ∧ W.cell? ⟨B1, 2, none⟩ = some (.slice x1' l1' c1')) ∧ (W.cell? ⟨B2, 0, none⟩ = some (.bool s2) ∧ W.cell? ⟨B2, 1, none⟩ = some (.slice x2 l2 c2) ∧ W.cell? ⟨B2, 2, none⟩ = some (.slice x2' l2' c2')) ∧ W.cell? ⟨b', o' + k, none⟩ = some (.int .i64 (s : Int)))) := fun W hb => ⟨⟨by rw [hb.cell (cell_lt y0)]; exact y0, by rw [hb.cell (cell_lt y1)]; exact y1, by rw [hb.cell (cell_lt y2)]; exact y2⟩, ⟨by rw [hb.cell (cell_lt v0)]; exact v0, by rw [hb.cell (cell_lt v1)]; exact v1, by rw [hb.cell (cell_lt v2)]; exact v2⟩, by rw [hb.cell (cell_lt hlk)]; exact hlk⟩
      have HLW := Hid.mk' (fun (W : World) (hb : Below wr.heap.size wr W) => And.intro (HR1.out.later hb) (HR2.out.later hb))
      have hcur : Below wr.heap.size wr wr.drew := (Below.refl _ _).drew
      clear y0 y1 y2 v0 v1 v2
      go_wp2_with fail
      refine region_but_last (n := 14) (S := fun W => (W.cell? ⟨B1, 0, none⟩ = some (.bool s1) ∧ W.cell? ⟨B1, 1, none⟩ = some (.slice x1 l1 c1) ∧ W.cell? ⟨B1, 2, none⟩ = some (.slice x1' l1' c1')) ∧ (W.cell? ⟨B2, 0, none⟩ = some (.bool s2) ∧ W.cell? ⟨B2, 1, none⟩ = some (.slice x2 l2 c2) ∧ W.cell? ⟨B2, 2, none⟩ = some (.slice x2' l2' c2')) ∧ W.cell? ⟨b', o' + k, none⟩ = some (.int .i64 (s : Int))) (by kernel_rfl) (by kernel_rfl) (by kernel_rfl) (HKS.out _ hcur) (fun hHeld => ?_)
      refine wpAnyH_take (i := 0) (v := ?v0a) rfl (by kernel_rfl) (by kernel_rfl) (by kernel_rfl) (fun _ _ _ h => h) (Or.inl ⟨by rfl, ?hy0a⟩) (by assumption) ?rest0a
      case hy0a => (intro w hSw; (try dsimp only at hSw); go_simp <;> (try with_reducible rfl))
      simp only [Act.put]
      refine wpAnyH_take (i := 1) (v := ?v1a) rfl (by kernel_rfl) (by kernel_rfl) (by kernel_rfl) (fun _ _ _ h => h) (Or.inl ⟨by rfl, ?hy1a⟩) (by assumption) ?rest1a
      case hy1a => (intro w hSw; (try dsimp only at hSw); go_simp <;> (try with_reducible rfl))
      simp only [Act.put]
      refine wpAnyH_take (i := 2) (v := ?v2a) rfl (by kernel_rfl) (by kernel_rfl) (by kernel_rfl) (fun _ _ _ h => h) (Or.inl ⟨by rfl, ?hy2a⟩) (by assumption) ?rest2a
      case hy2a => (intro w hSw; (try dsimp only at hSw); go_simp <;> (try with_reducible rfl))
      simp only [Act.put]
      refine wpAnyH_take (i := 3) (v := ?v3a) rfl (by kernel_rfl) (by kernel_rfl) (by kernel_rfl) (fun _ _ _ h => h) (Or.inl ⟨by rfl, ?hy3a⟩) (by assumption) ?rest3a
      case hy3a => (intro w hSw; (try dsimp only at hSw); go_simp <;> (try with_reducible rfl))
      simp only [Act.put]
      refine wpAnyH_take (i := 4) (v := ?v4a) rfl (by kernel_rfl) (by kernel_rfl) (by kernel_rfl) (fun _ _ _ h => h) (Or.inl ⟨by rfl, ?hy4a⟩) (by assumption) ?rest4a
      case hy4a => (intro w hSw; (try dsimp only at hSw); go_simp <;> (try with_reducible rfl))
      simp only [Act.put]
      refine wpAnyH_take (i := 5) (v := ?v5a) rfl (by kernel_rfl) (by kernel_rfl) (by kernel_rfl) (fun _ _ _ h => h) (Or.inl ⟨by rfl, ?hy5a⟩) (by assumption) ?rest5a
      case hy5a => (intro w hSw; (try dsimp only at hSw); go_simp <;> (try with_reducible rfl))
      simp only [Act.put]
      refine wpAnyH_take (i := 6) (v := ?v6a) rfl (by kernel_rfl) (by kernel_rfl) (by kernel_rfl) (fun _ _ _ h => h) (Or.inl ⟨by rfl, ?hy6a⟩) (by assumption) ?rest6a
      case hy6a => (intro w hSw; (try dsimp only at hSw); go_simp <;> (try with_reducible rfl))
      simp only [Act.put]
      refine wpAnyH_take (i := 7) (v := ?v7a) rfl (by kernel_rfl) (by kernel_rfl) (by kernel_rfl) (fun _ _ _ h => h) (Or.inl ⟨by rfl, ?hy7a⟩) (by assumption) ?rest7a
      case hy7a => (intro w hSw; (try dsimp only at hSw); go_simp <;> (try with_reducible rfl))
      simp only [Act.put]
      refine wpAnyH_take (i := 9) (v := ?v9a) rfl (by kernel_rfl) (by kernel_rfl) (by kernel_rfl) (fun _ _ _ h => h) (Or.inl ⟨by rfl, ?hy9a⟩) (by assumption) ?rest9a
      case hy9a => (intro w hSw; (try dsimp only at hSw); go_simp <;> (try with_reducible rfl))
      simp only [Act.put]
      refine wpAnyH_ready (rs := [8]) (by kernel_rfl) (by simp) ?_
      refine AllReadyH.cons rfl (fun K hK => ?_) AllReadyH.nil
      go_simp
      refine (HSA.out _ (below_chain HB.out hcur)).mono ?_
      rintro e w4 ⟨rfl, hw4⟩
      rw [hw4]
      clear hw4 w4
      go_wp2_with fail
      refine hK.out _ _ ?_ (fun hHeld => ?_)
      · exact HKS.out _ hcur
      clear hK K
      refine wpAnyH_ready (rs := [10]) (by kernel_rfl) (by simp) ?_
      refine AllReadyH.cons rfl (fun K hK => ?_) AllReadyH.nil
      go_simp
      refine (HSS.out _ (below_chain HB.out hcur)).mono ?_
      rintro e w4 ⟨rfl, hw4⟩
      rw [hw4]
      clear hw4 w4
      go_wp2_with fail
      refine hK.out _ _ ?_ (fun hHeld => ?_)
      · exact HKS.out _ hcur
      clear hK K
      refine wpAnyH_ready (rs := [11]) (by kernel_rfl) (by simp) ?_
      refine AllReadyH.cons rfl (fun K hK => ?_) AllReadyH.nil
      go_simp
      refine (HRA.out _).mono ?_
      rintro e w5 ⟨r1, rfl, hr1, hb5⟩
      have hcur := below_chain hcur hb5
      have HX1 := Hid.mk' hr1
      obtain ⟨t1, p1, m1, q1, p1', m1', q1', hr1e⟩ := hr1.sl
      subst hr1e
      clear hr1
      go_wp2_with fail
      refine hK.out _ _ ?_ (fun hHeld => ?_)
      · exact HKS.out _ hcur
      clear hK K
      refine wpAnyH_ready (rs := [12]) (by kernel_rfl) (by simp) ?_
      refine AllReadyH.cons rfl (fun K hK => ?_) AllReadyH.nil
      go_simp
      refine (HTM.out _ _ _ (HLW.out _ hcur).2.rat HX1.out).mono ?_
      rintro e w6 ⟨r2, rfl, hr2, hb6⟩
      have hcur := below_chain hcur hb6
      have HX2 := Hid.mk' hr2
      obtain ⟨t2, p2, m2, q2, p2', m2', q2', hr2e⟩ := hr2.sl
      subst hr2e
      clear hr2
      go_wp2_with fail
      refine hK.out _ _ ?_ (fun hHeld => ?_)
      · exact HKS.out _ hcur
      clear hK K
      refine wpAnyH_ready (rs := [13]) (by kernel_rfl) (by simp) ?_
      refine AllReadyH.cons rfl (fun K hK => ?_) AllReadyH.nil
      go_simp
      refine (HPL.out _ _ _ (HLW.out _ hcur).1.rat HX2.out).mono ?_
      rintro e w7 ⟨r3, rfl, hr3, hb7⟩
      have hcur := below_chain hcur hb7
      have HX3 := Hid.mk' hr3
      obtain ⟨t3, p3, m3, q3, p3', m3', q3', hr3e⟩ := hr3.sl
      subst hr3e
      clear hr3
      have hL := HLW.out _ hcur
      have fz0 := hL.1.fz 0 (by decide)
      have fz1 := hL.1.fz 1 (by decide)
      have fz2 := hL.1.fz 2 (by decide)
      have k0 := hL.1.c0
      have k1 := hL.1.c1
      have k2 := hL.1.c2
      obtain ⟨⟨g0, g1⟩, ⟨g2, g3⟩, g4⟩ := put_three' (.bool t3) (.slice p3 m3 q3) (.slice p3' m3' q3') k0 k1 k2
      have HSET := Hid.mk' (hL.1.put HX3.out)
      have HSW := Hid.mk' (hL.2.aside hL.1 HNE.out (.bool t3) (.slice p3 m3 q3) (.slice p3' m3' q3'))
      clear hL
      go_wp2_with fail
      refine hK.out _ _ ?_ (fun hHeld => ?_)
      · exact HKS.out _ hcur
      clear hK K
      refine wpAnyH_done (by kernel_rfl) ?_ _
      refine ahead_last rfl (fun K hK => ?_)
      go_simp
      refine hK _ _ ?_
      clear hK K
      unfold put3 at HSET HSW
      have HB8 : Hid (Below W0.heap.size W0 (((w7.setCell ⟨B1, 0, none⟩ (.bool t3)).setCell ⟨B1, 1, none⟩ (.slice p3 m3 q3)).setCell ⟨B1, 2, none⟩ (.slice p3' m3' q3'))) := (((below_chain HB.out hcur).setCell HLT1.out _).setCell HLT1.out _).setCell HLT1.out _
      generalize ((w7.setCell ⟨B1, 0, none⟩ (.bool t3)).setCell ⟨B1, 1, none⟩ (.slice p3 m3 q3)).setCell ⟨B1, 2, none⟩ (.slice p3' m3' q3') = W8 at *
      clear HX1 HX2 HX3 hHeld g0 g1 g2 g3 g4 k0 k1 k2 fz0 fz1 fz2 hcur HKS HLW hb5 hb6 hb7 hlk hz1 HRS HR1 HR2
      have hlk : W8.cell? ⟨b', o' + k, none⟩ = some (.int .i64 (s : Int)) := by rw [HB8.out.cell (cell_lt HLC.out)]; exact HLC.out
      have hz1 : W8.cell? ⟨b, o + s, none⟩ = some (.int .i64 (Z : Int)) := by rw [HB8.out.cell (cell_lt HZC.out)]; exact HZC.out
      have v0 := HSW.out.c0
      have v1 := HSW.out.c1
      have v2 := HSW.out.c2
      have HKS : Hid (∀ W, Below W8.heap.size W8 W → ((W.cell? ⟨B2, 0, none⟩ = some (.bool s2) ∧ W.cell? ⟨B2, 1, none⟩ = some (.slice x2 l2 c2) ∧ W.cell? ⟨B2, 2, none⟩ = some (.slice x2' l2' c2')) ∧ W.cell? ⟨b', o' + k, none⟩ = some (.int .i64 (s : Int)) ∧ W.cell? ⟨b, o + s, none⟩ = some (.int .i64 (Z : Int)))) := fun W hb => ⟨⟨by rw [hb.cell (cell_lt v0)]; exact v0, by rw [hb.cell (cell_lt v1)]; exact v1, by rw [hb.cell (cell_lt v2)]; exact v2⟩, by rw [hb.cell (cell_lt hlk)]; exact hlk, by rw [hb.cell (cell_lt hz1)]; exact hz1⟩
      have HLW := Hid.mk' (fun (W : World) (hb : Below W8.heap.size W8 W) => And.intro (HSET.out.later hb) (HSW.out.later hb))
      have hcur : Below W8.heap.size W8 W8.drew := (Below.refl _ _).drew
      clear v0 v1 v2 HSET HSW
      go_wp2_with fail
      refine region_but_last (n := 12) (S := fun W => (W.cell? ⟨B2, 0, none⟩ = some (.bool s2) ∧ W.cell? ⟨B2, 1, none⟩ = some (.slice x2 l2 c2) ∧ W.cell? ⟨B2, 2, none⟩ = some (.slice x2' l2' c2')) ∧ W.cell? ⟨b', o' + k, none⟩ = some (.int .i64 (s : Int)) ∧ W.cell? ⟨b, o + s, none⟩ = some (.int .i64 (Z : Int))) (by kernel_rfl) (by kernel_rfl) (by kernel_rfl) (HKS.out _ hcur) (fun hHeld => ?_)
      refine wpAnyH_take (i := 0) (v := ?v0b) rfl (by kernel_rfl) (by kernel_rfl) (by kernel_rfl) (fun _ _ _ h => h) (Or.inl ⟨by rfl, ?hy0b⟩) (by assumption) ?rest0b
      case hy0b => (intro w hSw; (try dsimp only at hSw); go_simp <;> (try with_reducible rfl))
      simp only [Act.put]
      refine wpAnyH_take (i := 1) (v := ?v1b) rfl (by kernel_rfl) (by kernel_rfl) (by kernel_rfl) (fun _ _ _ h => h) (Or.inl ⟨by rfl, ?hy1b⟩) (by assumption) ?rest1b
      case hy1b => (intro w hSw; (try dsimp only at hSw); go_simp <;> (try with_reducible rfl))
      simp only [Act.put]
      refine wpAnyH_take (i := 2) (v := ?v2b) rfl (by kernel_rfl) (by kernel_rfl) (by kernel_rfl) (fun _ _ _ h => h) (Or.inl ⟨by rfl, ?hy2b⟩) (by assumption) ?rest2b
      case hy2b => (intro w hSw; (try dsimp only at hSw); go_simp <;> (try with_reducible rfl))
      simp only [Act.put]
      refine wpAnyH_take (i := 3) (v := ?v3b) rfl (by kernel_rfl) (by kernel_rfl) (by kernel_rfl) (fun _ _ _ h => h) (Or.inl ⟨by rfl, ?hy3b⟩) (by assumption) ?rest3b
      case hy3b => (intro w hSw; (try dsimp only at hSw); go_simp <;> (try with_reducible rfl))
      simp only [Act.put]
      refine wpAnyH_take (i := 4) (v := ?v4b) rfl (by kernel_rfl) (by kernel_rfl) (by kernel_rfl) (fun _ _ _ h => h) (Or.inl ⟨by rfl, ?hy4b⟩) (by assumption) ?rest4b
      case hy4b => (intro w hSw; (try dsimp only at hSw); go_simp <;> (try with_reducible rfl))
      simp only [Act.put]
      refine wpAnyH_take (i := 5) (v := ?v5b) rfl (by kernel_rfl) (by kernel_rfl) (by kernel_rfl) (fun _ _ _ h => h) (Or.inl ⟨by rfl, ?hy5b⟩) (by assumption) ?rest5b
      case hy5b => (intro w hSw; (try dsimp only at hSw); go_simp <;> (try with_reducible rfl))
      simp only [Act.put]
      refine wpAnyH_take (i := 6) (v := ?v6b) rfl (by kernel_rfl) (by kernel_rfl) (by kernel_rfl) (fun _ _ _ h => h) (Or.inl ⟨by rfl, ?hy6b⟩) (by assumption) ?rest6b
      case hy6b => (intro w hSw; (try dsimp only at hSw); go_simp <;> (try with_reducible rfl))
      simp only [Act.put]
      refine wpAnyH_take (i := 7) (v := ?v7b) rfl (by kernel_rfl) (by kernel_rfl) (by kernel_rfl) (fun _ _ _ h => h) (Or.inl ⟨by rfl, ?hy7b⟩) (by assumption) ?rest7b
      case hy7b => (intro w hSw; (try dsimp only at hSw); go_simp <;> (try with_reducible rfl))
      simp only [Act.put]
      refine wpAnyH_take (i := 8) (v := ?v8b) rfl (by kernel_rfl) (by kernel_rfl) (by kernel_rfl) (fun _ _ _ h => h) (Or.inl ⟨by rfl, ?hy8b⟩) (by assumption) ?rest8b
      case hy8b => (intro w hSw; (try dsimp only at hSw); go_simp <;> (try with_reducible rfl))
      simp only [Act.put]
      refine wpAnyH_ready (rs := [9]) (by kernel_rfl) (by simp) ?_
      refine AllReadyH.cons rfl (fun K hK => ?_) AllReadyH.nil
      go_simp
      refine (HSS.out _ (below_chain HB8.out hcur)).mono ?_
      rintro e w4 ⟨rfl, hw4⟩
      rw [hw4]
      clear hw4 w4
      go_wp2_with fail
      refine hK.out _ _ ?_ (fun hHeld => ?_)
      · exact HKS.out _ hcur
      clear hK K
      refine wpAnyH_ready (rs := [10]) (by kernel_rfl) (by simp) ?_
      refine AllReadyH.cons rfl (fun K hK => ?_) AllReadyH.nil
      go_simp
      refine (HRZ.out _).mono ?_
      rintro e w8 ⟨r4, rfl, hr4, hb8⟩
      have hcur := below_chain hcur hb8
      have HX1 := Hid.mk' hr4
      obtain ⟨t1, p1, m1, q1, p1', m1', q1', hr1e⟩ := hr4.sl
      subst hr1e
      clear hr4
      go_wp2_with fail
      refine hK.out _ _ ?_ (fun hHeld => ?_)
      · exact HKS.out _ hcur
      clear hK K
      refine wpAnyH_ready (rs := [11]) (by kernel_rfl) (by simp) ?_
      refine AllReadyH.cons rfl (fun K hK => ?_) AllReadyH.nil
      go_simp
      refine (HTZ.out _ _ _ (HLW.out _ hcur).2.rat HX1.out).mono ?_
      rintro e w9 ⟨r5, rfl, hr5, hb9⟩
      have hcur := below_chain hcur hb9
      have HX3 := Hid.mk' hr5
      obtain ⟨t3, p3, m3, q3, p3', m3', q3', hr3e⟩ := hr5.sl
      subst hr3e
      clear hr5
      have hL := HLW.out _ hcur
      have fz0 := hL.2.fz 0 (by decide)
      have fz1 := hL.2.fz 1 (by decide)
      have fz2 := hL.2.fz 2 (by decide)
      have k0 := hL.2.c0
      have k1 := hL.2.c1
      have k2 := hL.2.c2
      obtain ⟨⟨g0, g1⟩, ⟨g2, g3⟩, g4⟩ := put_three' (.bool t3) (.slice p3 m3 q3) (.slice p3' m3' q3') k0 k1 k2
      have HSET := Hid.mk' (hL.2.put HX3.out)
      have HSW := Hid.mk' (hL.1.aside hL.2 (Ne.symm HNE.out) (.bool t3) (.slice p3 m3 q3) (.slice p3' m3' q3'))
      clear hL
      go_wp2_with fail
      refine hK.out _ _ ?_ (fun hHeld => ?_)
      · exact HKS.out _ hcur
      clear hK K
      refine wpAnyH_done (by kernel_rfl) ?_ _
      refine ahead_last rfl (fun K hK => ?_)
      go_simp
      refine hK _ _ ?_
      clear hK K
      unfold put3 at HSET HSW
      go_wp2_with fail
      have hL1 := HSW.out
      rw [← Nat.pow_succ] at hL1
      have hW1 := HSET.out
      rw [← HNW.out, ← Nat.pow_succ] at hW1
      exact ⟨⟨k + 1, _, _, _, _, _, _, _, _, _, _, _, _, _, _, h1, by go_num, hL1, hW1, (((below_chain HB8.out hcur).setCell HLT2.out _).setCell HLT2.out _).setCell HLT2.out _⟩, by simp [intOf]; omega⟩
    · obtain rfl : k = m := by omega
      have HZR : Hid (∀ q, q < 2 → RBox wr (w.heap.size + q) false none 0 0 none 0 0 0 0) := fun q hq => by
        obtain ⟨⟨a0, a1, a2⟩, a3⟩ := HR0.out q hq wr HB.out
        exact ⟨a0, a1, a2, ⟨_, _, rfl, big_none wr, big_none wr⟩, a3⟩
      have hA := HZR.out 0 (by decide)
      have hB := HZR.out 1 (by decide)
      rw [Nat.add_zero] at hA
      have y0 := HR1.out.c0
      have y1 := HR1.out.c1
      have y2 := HR1.out.c2
      have v0 := HR2.out.c0
      have v1 := HR2.out.c1
      have v2 := HR2.out.c2
      have z0 := hA.c0
      have z1 := hA.c1
      have z2 := hA.c2
      have f0 := hA.fz 0 (by decide)
      have f1 := hA.fz 1 (by decide)
      have f2 := hA.fz 2 (by decide)
      obtain ⟨⟨g0, g1⟩, _, _⟩ := put_three' (.bool s1) (.slice x1 l1 c1) (.slice x1' l1' c1') z0 z1 z2
      have hA1 := hA.put HR1.out.rat
      have hB1 := hB.aside hA (by omega) (.bool s1) (.slice x1 l1 c1) (.slice x1' l1' c1')
      have hV2 := HR2.out.rat.put3 hA (.bool s1) (.slice x1 l1 c1) (.slice x1' l1' c1')
      have hA2 := hA1.aside hB1 (by omega) (.bool s2) (.slice x2 l2 c2) (.slice x2' l2' c2')
      have hB2 := hB1.put hV2
      have r0 := hB1.c0
      have r1 := hB1.c1
      have r2 := hB1.c2
      have f3 := hB1.fz 0 (by decide)
      have f4 := hB1.fz 1 (by decide)
      have f5 := hB1.fz 2 (by decide)
      obtain ⟨⟨g5, g6⟩, _, _⟩ := put_three' (.bool s2) (.slice x2 l2 c2) (.slice x2' l2' c2') r0 r1 r2
      have HA2 := Hid.mk' hA2
      have HB2 := Hid.mk' hB2
      clear hA hB hA1 hB1 hV2 hA2 hB2 HZR
      unfold put3 at r0 r1 r2 f3 f4 f5 g5 g6 HA2 HB2
      have HBF := Hid.mk' (below_chain HB0.out HB.out)
      have hlt0 := HLT0.out
      have hlt1 := HLT1.out
      have hlt2 := HLT2.out
      have n1 : ¬ B2 = w.heap.size := by omega
      have n2 : ¬ w.heap.size = B2 := by omega
      have n3 : ¬ B1 = w.heap.size := by omega
      have n4 : ¬ w.heap.size = B1 := by omega
      have n5 : ¬ B2 = w.heap.size + 1 := by omega
      have n6 : ¬ w.heap.size + 1 = B2 := by omega
      have n7 : ¬ B1 = w.heap.size + 1 := by omega
      have n8 : ¬ w.heap.size + 1 = B1 := by omega
      clear hlt0 hlt1 hlt2
      go_wp2_with fail
      go_region
      go_wp2_with fail
      refine bodyPost_ret (v := .tuple #[.agg #[.bool s1, .slice x1 l1 c1, .slice x1' l1' c1'], .agg #[.bool s2, .slice x2 l2 c2, .slice x2' l2' c2']]) (by simp [results, Tryd.results27, go_sem, HA2.out.c0, HA2.out.c1, HA2.out.c2, HB2.out.c0, HB2.out.c1, HB2.out.c2]) rfl ⟨_, _, rfl, HA2.out.rat.later (Below.refl _ _).drew, HB2.out.rat.later (Below.refl _ _).drew, ?_⟩
      exact ((((((HBF.out.setCell (Nat.le_refl _) _).setCell (Nat.le_refl _) _).setCell (Nat.le_refl _) _).setCell (Nat.le_succ _) _).setCell (Nat.le_succ _) _).setCell (Nat.le_succ _) _).drew
end Go.Proofs.YtgfejijaipggeaaDoor
