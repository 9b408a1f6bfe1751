/- A logarithm while the document makes it: two rows behind a pointer. -/
import Derived.Test.YtmdimdoglpiiiaaGreatDoorPackC
import Derived.Test.YtmdimdoglpiiiaaGreatDoorPackD
import Derived.Deep.AppendLies
import Derived.Deep.Upon
import Derived.Deep.Onto
import Derived.Deep.CutBlock
import Derived.Test.YtmdimdoglpiiiaaGreatDoorValidWalk
import Derived.Deep.CutRange
import Derived.Deep.RegionLaw
import Derived.Test.YtmdimdoglpiiiaaGreatDoorCode
import Derived.Test.YtmdimdoglpiiiaaGreatDoorValidLog
import Derived.Test.YtmdimdoglpiiiaaGreatDoorTold
namespace Go.Proofs.YtmdimdoglpiiiaaGreatDoor
open Go.RowKit

section
variable {P : Program} (w : World)
/-- append of nothing, or of what lies somewhere, to a row of one's own. -/
theorem run_append_src (t ty : TypeId) (base : Nat) (e : TypeId) (i : TypeInfo) (z : Value) (size bytes : Nat) (ht : P.underlying t = some (.slice e)) (hi : P.info? e = some i) (hz : i.zero = some z)
    (hsize : i.size = size) (hby : i.bytes = bytes) (hzs : z.cells.size = size) (hsz : 0 < size)
    (v : Value) (n : Nat) (xs : List Value) (hown : w.ownsRow base e size v n xs)
    (ad : Option Addr) (m c : Nat) (news : List Value) (hl : news.length = m * size) (hnews : ∀ j u, news[j]? = some u → ∃ a', ad = some a' ∧ w.cell? (a'.add j) = some u) (h1 : ∀ u ∈ news, u.oneCell' = true)
    (h63 : n + m ≤ maxLen) (hbytes : (n + m) * bytes ≤ 140737488355328) (hbase : base ≤ w.heap.size) :
    ∃ v' w', (Builtin.append_ #[t, t] ty #[v, .slice ad m c]).run P w = .ok v' w' ∧
      w'.ownsRow base e size v' (n + m) (xs ++ news) ∧ w.grownBy w' v.ownBlock ∧ ∃ ad' c', v' = .slice ad' (n + m) c' := by
  rcases Nat.eq_zero_or_pos m with rfl | hm
  · have hn0 : news = [] := List.length_eq_zero_iff.1 (by rw [hl, Nat.zero_mul])
    subst hn0
    have hsrc : Src P i.size t (.slice ad 0 c) 0 [] w := by
      cases ad with
      | none => exact Src.ofNil w ht c
      | some a => exact Src.ofSlice w ht a 0 c [] (by simp) (fun j u h => by simp at h) (fun u h => by simp at h)
    refine ⟨v, w, ?_, by simpa using hown, ⟨rfl, rfl, rfl, Nat.le_refl _, fun _ _ _ => rfl⟩, ?_⟩
    · rcases hown.2 with ⟨rfl, _⟩ | ⟨g, cap, cur, rfl, _, _, hle, _⟩
      · exact run_append_nothing w t t ty e i ht hi none 0 0 (Nat.le_refl _) _ hsrc
      · exact run_append_nothing w t t ty e i ht hi _ n cap hle _ hsrc
    · rcases hown.2 with ⟨rfl, rfl⟩ | ⟨g, cap, cur, rfl, _, _, hle, _⟩
      · exact ⟨_, _, rfl⟩
      · exact ⟨_, _, rfl⟩
  · have hne : 0 < news.length := by rw [hl]; exact Nat.mul_pos hm hsz
    obtain ⟨a', rfl, _⟩ := hnews 0 _ (List.getElem?_eq_getElem hne)
    obtain ⟨g, cap, w', h2, h3, h4, _, _⟩ := run_append_lies (P := P) w t ty base e i z size bytes ht hi hz hsize hby hzs hsz v n xs hown a' m c news hl (fun j u hu => by obtain ⟨b, hb, hc⟩ := hnews j u hu; cases hb; exact hc) h1 hm h63 hbytes hbase _ rfl
    exact ⟨_, w', h2, h3, h4, _, _, rfl⟩

theorem wpList_append_src {ops : Array Oper} {rest : List Oper} {o : Oper} {a : Act} {Q : Exit → Act → World → Prop} (hgd : o.guard = none) (s x : Operand) (t : TypeId)
    (ho : o.op = .call { callee := .builtin .append, args := #[s, x], argTypes := #[t, t] })
    (base : Nat) (e : TypeId) (i : TypeInfo) (z : Value) (size bytes : Nat) (ht : P.underlying t = some (.slice e)) (hi : P.info? e = some i) (hz : i.zero = some z)
    (hsize : i.size = size) (hby : i.bytes = bytes) (hzs : z.cells.size = size) (hsz : 0 < size)
    (v : Value) (n : Nat) (xs : List Value) (hs : a.eval s = v) (hown : w.ownsRow base e size v n xs)
    (ad : Option Addr) (m c : Nat) (news : List Value) (hx : a.eval x = .slice ad m c) (hl : news.length = m * size) (hnews : ∀ j u, news[j]? = some u → ∃ a', ad = some a' ∧ w.cell? (a'.add j) = some u) (h1 : ∀ u ∈ news, u.oneCell' = true)
    (h63 : n + m ≤ maxLen) (hbytes : (n + m) * bytes ≤ 140737488355328) (hbase : base ≤ w.heap.size) (N : Nat) (hN : n + m = N)
    (h : ∀ ad' c' w', w'.ownsRow base e size (.slice ad' N c') N (xs ++ news) → w.grownBy w' v.ownBlock → wpList P ops Q rest (a.put o.dst (.slice ad' N c')) w') : wpList P ops Q (o :: rest) a w := by
  subst hN
  refine wpList_plain hgd fun K hK => ?_
  obtain ⟨v', w', hr, h2, h3, ad', c', rfl⟩ := run_append_src (P := P) w t o.type base e i z size bytes ht hi hz hsize hby hzs hsz v n xs hown ad m c news hl hnews h1 h63 hbytes hbase
  unfold Oper.wp execOp
  simp only [ho, resolve, invoke, builtin, Sem.run_bind, Sem.run_pure, Result.andThen_ok, List.map_toArray, List.map_cons, List.map_nil, hs, hx, hr]
  exact hK _ _ (h ad' c' w' h2 h3)
end

/-- A prime, its coefficient as it lies, and what that is over the common denominator. -/
structure Ent where
  p : Nat
  x : Value
  y : Value
  q : Value
  z : Int
def Ent.val (e : Ent) : Value := .agg #[e.x, e.y, e.q]
def flat3 : List Ent → List Value
  | [] => []
  | e :: r => e.x :: e.y :: e.q :: flat3 r
def primes (L : List Ent) : List Nat := L.map fun e => e.p
def absL (L : List Ent) : List (Int × Int) := L.map fun e => ((e.p : Int), e.z)
theorem flat3_length : ∀ L : List Ent, (flat3 L).length = L.length * 3
  | [] => rfl
  | e :: r => by
    show (flat3 r).length + 1 + 1 + 1 = (r.length + 1) * 3
    rw [flat3_length r]; omega
theorem flat3_append : ∀ A B : List Ent, flat3 (A ++ B) = flat3 A ++ flat3 B
  | [], B => rfl
  | e :: A, B => by
    show e.x :: e.y :: e.q :: flat3 (A ++ B) = e.x :: e.y :: e.q :: (flat3 A ++ flat3 B)
    rw [flat3_append A B]
theorem flat3_at : ∀ (L : List Ent) (i : Nat) (e : Ent), L[i]? = some e → (flat3 L)[i * 3]? = some e.x ∧ (flat3 L)[i * 3 + 1]? = some e.y ∧ (flat3 L)[i * 3 + 2]? = some e.q
  | [], i, e, h => by simp at h
  | f :: r, 0, e, h => by
    simp at h
    subst h
    exact ⟨rfl, rfl, rfl⟩
  | f :: r, i + 1, e, h => by
    have h' := flat3_at r i e (by simpa using h)
    have e1 : (i + 1) * 3 = i * 3 + 1 + 1 + 1 := by omega
    rw [e1]
    exact h'
theorem flat3_mem : ∀ (L : List Ent) (u : Value), u ∈ flat3 L → ∃ e ∈ L, u = e.x ∨ u = e.y ∨ u = e.q
  | [], u, h => by simp [flat3] at h
  | f :: r, u, h => by
    simp only [flat3, List.mem_cons] at h
    rcases h with h | h | h | h
    · exact ⟨f, List.mem_cons_self .., Or.inl h⟩
    · exact ⟨f, List.mem_cons_self .., Or.inr (Or.inl h)⟩
    · exact ⟨f, List.mem_cons_self .., Or.inr (Or.inr h)⟩
    · obtain ⟨e, he, h'⟩ := flat3_mem r u h
      exact ⟨e, List.mem_cons_of_mem _ he, h'⟩
theorem flat3_set : ∀ (L : List Ent) (k : Nat) (e : Ent), k < L.length → (((flat3 L).set (k * 3) e.x).set (k * 3 + 1) e.y).set (k * 3 + 2) e.q = flat3 (L.set k e)
  | [], k, e, h => by simp at h
  | f :: r, 0, e, _ => rfl
  | f :: r, k + 1, e, h => by
    have ih := flat3_set r k e (by simpa using h)
    have e1 : (k + 1) * 3 = k * 3 + 1 + 1 + 1 := by omega
    rw [e1]
    show f.x :: f.y :: f.q :: ((((flat3 r).set (k * 3) e.x).set (k * 3 + 1) e.y).set (k * 3 + 2) e.q) = f.x :: f.y :: f.q :: flat3 (r.set k e)
    rw [ih]
theorem flat3_take (L : List Ent) (k : Nat) : flat3 L = flat3 (L.take k) ++ flat3 (L.drop k) := by rw [← flat3_append, List.take_append_drop]

/-- Whole numbers that lie somewhere stay. -/
def IntsKept (w w' : World) : Prop := ∀ a x, w.cell? a = some (.int .i64 x) → w'.cell? a = some (.int .i64 x)
theorem IntsKept.refl (w : World) : IntsKept w w := fun _ _ h => h
theorem IntsKept.trans {w w' w'' : World} (h : IntsKept w w') (h' : IntsKept w' w'') : IntsKept w w'' := fun a x e => h' a x (h a x e)
theorem IntsKept.of_below {w w' : World} (h : Below w.heap.size w w') : IntsKept w w' := fun a x e => by rw [h.cell (cell_lt e)]; exact e
theorem IntsKept.set {w : World} {a : Addr} {v y : Value} (hv : w.cell? a = some v) (hn : ∀ x, v ≠ .int .i64 x) : IntsKept w (w.setCell a y) := fun b x e => by
  by_cases h : b = a
  · subst h; rw [hv] at e; exact absurd (Option.some.inj e) (hn x)
  · rw [World.cell?_setCell_other _ _ _ _ (Ne.symm h)]; exact e
theorem IntsAt.kept {w w' : World} {v : Value} {l : List Nat} (h : IntsAt w v l) (hk : IntsKept w w') : IntsAt w' v l := by
  rcases h with h | ⟨b, o, cap, h1, h2, h3, h4⟩
  · exact Or.inl h
  · exact Or.inr ⟨b, o, cap, h1, h2, h3, fun i hi => hk _ _ (h4 i hi)⟩
theorem BigAt.kept {w w' : World} {v : Value} {n : Nat} (h : BigAt w v n) (hk : IntsKept w w') : BigAt w' v n := by
  obtain ⟨l, h1, h2, h3, h4⟩ := h
  exact ⟨l, h1, h2, h3, h4.kept hk⟩
theorem RatioAt.kept {w w' : World} {v : Value} {n : Int} {d : Nat} (h : RatioAt w v n d) (hk : IntsKept w w') : RatioAt w' v n d := by
  obtain ⟨u, q, h1, h2, h3⟩ := h
  exact ⟨u, q, h1, h2.kept hk, h3.kept hk⟩

/-- The pointer's own block, and that of its coefficients. -/
def Mine (B : Nat) (w : World) (k : Nat) : Prop := k = B ∨ ∃ n cap, w.cell? ⟨B, 1, none⟩ = some (.slice (some ⟨k, 0, none⟩) n cap)
/-- No other block has changed. -/
structure Moved (B : Nat) (w w' : World) : Prop where
  size : w.heap.size ≤ w'.heap.size
  block : ∀ k, k < w.heap.size → ¬ Mine B w k → w'.heap[k]? = w.heap[k]? ∧ ¬ Mine B w' k
theorem Moved.refl (B : Nat) (w : World) : Moved B w w := ⟨Nat.le_refl _, fun _ _ h => ⟨rfl, h⟩⟩
theorem Moved.trans {B : Nat} {w w' w'' : World} (h : Moved B w w') (h' : Moved B w' w'') : Moved B w w'' :=
  ⟨Nat.le_trans h.size h'.size, fun k hk hm => by
    obtain ⟨h1, h2⟩ := h.block k hk hm
    obtain ⟨h3, h4⟩ := h'.block k (Nat.lt_of_lt_of_le hk h.size) h2
    exact ⟨h3.trans h1, h4⟩⟩
theorem Moved.of_below {B : Nat} {w w' : World} (h : Below w.heap.size w w') (hB : B < w.heap.size) : Moved B w w' :=
  ⟨h.size, fun k hk hm => ⟨h.block k hk, fun h' => hm (by
    rcases h' with h' | ⟨n, cap, h'⟩
    · exact Or.inl h'
    · exact Or.inr ⟨n, cap, by rw [← h']; exact (h.cell (p := ⟨B, 1, none⟩) hB).symm⟩)⟩⟩
theorem Moved.cell {B : Nat} {w w' : World} (h : Moved B w w') {a : Addr} (ha : a.block < w.heap.size) (hm : ¬ Mine B w a.block) : w'.cell? a = w.cell? a := World.cell?_of_block (h.block _ ha hm).1

theorem ownsRow_past {w w' : World} {base e size n : Nat} {v : Value} {xs : List Value} (h : w.ownsRow base e size v n xs) (hb : Below w.heap.size w w') : w'.ownsRow base e size v n xs :=
  h.kept (row := none) ⟨hb.os, hb.tape, hb.output, hb.size, fun k hk _ => hb.block k hk⟩ (by cases hv : v.ownBlock <;> simp)
structure WideAt (base M : Nat) (W : World) (B : Nat) (vp vc : Value) (L : List Ent) : Prop where
  hB : base ≤ B
  cp : W.cell? ⟨B, 0, none⟩ = some vp
  cc : W.cell? ⟨B, 1, none⟩ = some vc
  f0 : W.frozen? ⟨B, 0, none⟩ = false
  f1 : W.frozen? ⟨B, 1, none⟩ = false
  P : W.ownsRow base 3 1 vp L.length (digCells (primes L))
  C : W.ownsRow base 37 3 vc L.length (flat3 L)
  R : ∀ e ∈ L, RatioAt W e.val (lowN M e.z) (lowD M e.z)
  nil : L = [] → vp = .slice none 0 0 ∧ vc = .slice none 0 0
theorem WideAt.lt {base M : Nat} {W : World} {B : Nat} {vp vc : Value} {L : List Ent} (h : WideAt base M W B vp vc L) : B < W.heap.size := cell_lt h.cp
theorem WideAt.later {base M : Nat} {W W' : World} {B : Nat} {vp vc : Value} {L : List Ent} (h : WideAt base M W B vp vc L) (hb : Below W.heap.size W W') : WideAt base M W' B vp vc L :=
  ⟨h.hB, (cell_past h.cp hb).2, (cell_past h.cc hb).2, (frozen_past h.cp h.f0 hb).2, (frozen_past h.cc h.f1 hb).2, ownsRow_past h.P hb, ownsRow_past h.C hb, fun e he => (h.R e he).later hb, h.nil⟩
/-- A fraction's three values. -/
theorem RatioAt.parts {w : World} {v : Value} {n : Int} {d : Nat} (h : RatioAt w v n d) : ∃ s ad l cap ad' l' cap', v = .agg #[.bool s, .slice ad l cap, .slice ad' l' cap'] := by
  obtain ⟨u, q, rfl, h1, h2⟩ := h
  obtain ⟨ad, l, cap, rfl, _⟩ := h1.len
  obtain ⟨ad', l', cap', rfl, _⟩ := h2.len
  exact ⟨_, _, _, _, _, _, _, rfl⟩
theorem Ent.parts {w : World} {e : Ent} {n : Int} {d : Nat} (h : RatioAt w e.val n d) : ∃ s ad l cap ad' l' cap', e.x = .bool s ∧ e.y = .slice ad l cap ∧ e.q = .slice ad' l' cap' := by
  obtain ⟨s, ad, l, cap, ad', l', cap', h⟩ := h.parts
  unfold Ent.val at h
  simp at h
  exact ⟨s, ad, l, cap, ad', l', cap', h⟩
theorem WideAt.no_ints {base M : Nat} {W : World} {B : Nat} {vp vc : Value} {L : List Ent} (h : WideAt base M W B vp vc L) : ∀ u ∈ flat3 L, (∀ x, u ≠ .int .i64 x) ∧ u.oneCell' = true := fun u hu => by
  obtain ⟨e, he, hu⟩ := flat3_mem L u hu
  obtain ⟨s, ad, l, cap, ad', l', cap', h1, h2, h3⟩ := Ent.parts (h.R e he)
  rcases hu with rfl | rfl | rfl
  · rw [h1]; exact ⟨(fun x e => by cases e), rfl⟩
  · rw [h2]; exact ⟨(fun x e => by cases e), rfl⟩
  · rw [h3]; exact ⟨(fun x e => by cases e), rfl⟩
theorem grownBy_set (w : World) (a : Addr) (u : Value) : w.grownBy (w.setCell a u) (some a.block) := ⟨rfl, rfl, rfl, by simp, fun k _ hk => heap_setCell_other w a k u (fun e => hk (by simp [e]))⟩
theorem src_left {W : World} {base e size g n cap : Nat} {A B : List Value} (h : W.ownsRow base e size (.slice (some ⟨g, 0, none⟩) n cap) n (A ++ B)) : ∀ j u, A[j]? = some u → ∃ a', some (⟨g, 0, none⟩ : Addr) = some a' ∧ W.cell? (a'.add j) = some u := fun j u hu => by
  have hlt : j < A.length := (List.getElem?_eq_some_iff.1 hu).1
  have hl := h.1
  rw [List.length_append] at hl
  refine ⟨_, rfl, ?_⟩
  rw [add_plain, Nat.zero_add, h.cellAt j (by omega), List.getElem?_append_left hlt]
  exact hu
theorem src_right {W : World} {base e size g n cap : Nat} {A B : List Value} (h : W.ownsRow base e size (.slice (some ⟨g, 0, none⟩) n cap) n (A ++ B)) {o : Nat} (ho : A.length = o) : ∀ j u, B[j]? = some u → ∃ a', some (⟨g, o, none⟩ : Addr) = some a' ∧ W.cell? (a'.add j) = some u := fun j u hu => by
  have hlt : j < B.length := (List.getElem?_eq_some_iff.1 hu).1
  have hl := h.1
  rw [List.length_append] at hl
  refine ⟨_, rfl, ?_⟩
  rw [add_plain, h.cellAt (o + j) (by omega), List.getElem?_append_right (by omega), ← ho, Nat.add_sub_cancel_left]
  exact hu
theorem src_right_if {W : World} {base e size g n cap m : Nat} {A B : List Value} (h : W.ownsRow base e size (.slice (some ⟨g, 0, none⟩) n cap) n (A ++ B)) {o : Nat} (ho : A.length = o) (hm : cap = m → B = []) : ∀ j u, B[j]? = some u → ∃ a', (if cap = m then some (⟨g, 0, none⟩ : Addr) else some ⟨g, o, none⟩) = some a' ∧ W.cell? (a'.add j) = some u := fun j u hu => by
  by_cases hc : cap = m
  · rw [hm hc] at hu; simp at hu
  · rw [if_neg hc]; exact src_right h ho j u hu
theorem three_new_past {w W : World} {x y z : Value} {t : TypeId} (hb : Below (w.alloc (.cells #[x, y, z] t)).heap.size (w.alloc (.cells #[x, y, z] t)) W) : W.cell? ⟨w.heap.size, 0, none⟩ = some x ∧ W.cell? ⟨w.heap.size, 1, none⟩ = some y ∧ W.cell? ⟨w.heap.size, 2, none⟩ = some z := by
  refine ⟨(cell_past ?_ hb).2, (cell_past ?_ hb).2, (cell_past ?_ hb).2⟩
  · rw [World.cell?_alloc_at _ _ _ _ rfl]; rfl
  · rw [World.cell?_alloc_at _ _ _ _ rfl]; rfl
  · rw [World.cell?_alloc_at _ _ _ _ rfl]; rfl
theorem src_new (w : World) (cs : Array Value) (t : TypeId) : ∀ j u, cs.toList[j]? = some u → ∃ a', some (⟨w.heap.size, 0, none⟩ : Addr) = some a' ∧ (w.alloc (.cells cs t)).cell? (a'.add j) = some u := fun j u hu => by
  refine ⟨_, rfl, ?_⟩
  rw [add_plain, Nat.zero_add, World.cell?_alloc_at _ _ _ _ rfl]
  simpa using hu
theorem dig_cut (l : List Nat) (k : Nat) : digCells l = digCells (l.take k) ++ digCells (l.drop k) := by
  unfold digCells
  rw [← List.map_append, List.take_append_drop]
theorem primes_join (A B : List Ent) : primes (A ++ B) = primes A ++ primes B := by unfold primes; rw [List.map_append]
theorem absL_join (A B : List Ent) : absL (A ++ B) = absL A ++ absL B := by unfold absL; rw [List.map_append]
theorem cell_set0 {W : World} {B : Nat} {v vc u : Value} (hp : W.cell? ⟨B, 0, none⟩ = some v) (hc : W.cell? ⟨B, 1, none⟩ = some vc) : (W.setCell ⟨B, 0, none⟩ u).cell? ⟨B, 0, none⟩ = some u ∧ (W.setCell ⟨B, 0, none⟩ u).cell? ⟨B, 1, none⟩ = some vc := ⟨World.cell?_setCell_same _ _ _ hp, by rw [World.cell?_setCell_other _ _ _ _ (by simp)]; exact hc⟩

/-- A prime more, laid between the others. -/
theorem wide_insert {base M B k n c3 c6 : Nat} {W1 w4 W2 w7 : World} {vp vc : Value} {L : List Ent} {e : Ent} {ad3 ad6 : Option Addr} (h : WideAt base M W1 B vp vc L) (hb4 : Below W1.heap.size W1 w4)
    (hP : w4.ownsRow W1.heap.size 3 1 (.slice ad3 n c3) n (digCells (primes (L.take k)) ++ [.int .i64 (e.p : Int)] ++ digCells (primes (L.drop k)))) (hW2 : W2 = w4.setCell ⟨B, 0, none⟩ (.slice ad3 n c3)) (hb7 : Below W2.heap.size W2 w7)
    (hC : w7.ownsRow W2.heap.size 37 3 (.slice ad6 n c6) n (flat3 (L.take k) ++ [e.x, e.y, e.q] ++ flat3 (L.drop k))) (hR : RatioAt W1 e.val (lowN M e.z) (lowD M e.z)) :
    WideAt base M (w7.setCell ⟨B, 1, none⟩ (.slice ad6 n c6)) B (.slice ad3 n c3) (.slice ad6 n c6) (L.take k ++ e :: L.drop k) ∧ IntsKept W1 (w7.setCell ⟨B, 1, none⟩ (.slice ad6 n c6)) ∧ Moved B W1 (w7.setCell ⟨B, 1, none⟩ (.slice ad6 n c6)) ∧ Below base W1 (w7.setCell ⟨B, 1, none⟩ (.slice ad6 n c6)) := by
  have h4 := h.later hb4
  have hB1 := h.lt
  obtain ⟨q0, q1⟩ := cell_set0 (u := .slice ad3 n c3) h4.cp h4.cc
  rw [← hW2] at q0 q1
  have hf0 : W2.frozen? ⟨B, 0, none⟩ = false := by rw [hW2, World.frozen?_setCell]; exact h4.f0
  have hf1 : W2.frozen? ⟨B, 1, none⟩ = false := by rw [hW2, World.frozen?_setCell]; exact h4.f1
  have hsz2 : W2.heap.size = w4.heap.size := by rw [hW2]; simp
  have hs4 := hb4.size
  have hs7 := hb7.size
  have hBb := h.hB
  have hn : n = L.length + 1 := by
    have h1 := hC.1
    have h2 := flat3_length L
    rw [flat3_take L k, List.length_append] at h2
    simp only [List.length_append, List.length_cons, List.length_nil] at h1
    omega
  obtain ⟨g3, cap3, e3, hg3, _⟩ := hP.form (by omega)
  obtain ⟨g6, cap6, e6, hg6, hg6'⟩ := hC.form (by omega)
  have hK4 : IntsKept W1 w4 := IntsKept.of_below hb4
  obtain ⟨vps, hvps⟩ : ∃ a c, vp = .slice a L.length c := by
    rcases h.P.2 with ⟨rfl, h0⟩ | ⟨g, cap, cur, rfl, _⟩
    · exact ⟨none, 0, by rw [h0]⟩
    · exact ⟨_, _, rfl⟩
  obtain ⟨vpc, rfl⟩ := hvps
  obtain ⟨vcs, hvcs⟩ : ∃ a c, vc = .slice a L.length c := by
    rcases h.C.2 with ⟨rfl, h0⟩ | ⟨g, cap, cur, rfl, _⟩
    · exact ⟨none, 0, by rw [h0]⟩
    · exact ⟨_, _, rfl⟩
  obtain ⟨vcc, rfl⟩ := hvcs
  have hK2 : IntsKept W1 W2 := hK4.trans (by rw [hW2]; exact IntsKept.set h4.cp (fun x e => by cases e))
  have hK7 : IntsKept W1 w7 := hK2.trans (IntsKept.of_below hb7)
  have r1 := (cell_past q1 hb7).2
  have r0 := (cell_past q0 hb7).2
  have hK8 : IntsKept W1 (w7.setCell ⟨B, 1, none⟩ (.slice ad6 n c6)) := hK7.trans (IntsKept.set r1 (fun x e => by cases e))
  have hlen : (L.take k ++ e :: L.drop k).length = n := by
    have : (L.take k).length + (L.drop k).length = L.length := by rw [← List.length_append, List.take_append_drop]
    simp only [List.length_append, List.length_cons]
    omega
  have hP7 : w7.ownsRow W1.heap.size 3 1 (.slice ad3 n c3) n (digCells (primes (L.take k)) ++ [.int .i64 (e.p : Int)] ++ digCells (primes (L.drop k))) := by
    refine ownsRow_past ?_ hb7
    rw [hW2]
    refine hP.kept (grownBy_set _ _ _) (Or.inr ?_)
    rw [e3]
    simp [Value.ownBlock]
    omega
  refine ⟨⟨hBb, ?_, ?_, ?_, ?_, ?_, ?_, ?_, ?_⟩, hK8, ⟨?_, ?_⟩, ?_⟩
  · rw [World.cell?_setCell_other _ _ _ _ (by simp)]; exact r0
  · exact World.cell?_setCell_same _ _ _ r1
  · rw [World.frozen?_setCell]; exact (frozen_past q0 hf0 hb7).2
  · rw [World.frozen?_setCell]; exact (frozen_past q1 hf1 hb7).2
  · rw [hlen]
    have h1 := hP7.mono (show base ≤ W1.heap.size by omega)
    have h2 := h1.kept (grownBy_set w7 ⟨B, 1, none⟩ (.slice ad6 n c6)) (Or.inr (by rw [e3]; simp [Value.ownBlock]; omega))
    rw [primes_join]
    simpa [digCells, primes] using h2
  · rw [hlen]
    have h1 := hC.mono (show base ≤ W2.heap.size by omega)
    have h2 := h1.kept (grownBy_set w7 ⟨B, 1, none⟩ (.slice ad6 n c6)) (Or.inr (by rw [e6]; simp [Value.ownBlock]; omega))
    rw [flat3_append]
    simpa [flat3] using h2
  · intro f hf
    have : f = e ∨ f ∈ L := by
      rcases List.mem_append.1 hf with h1 | h1
      · exact Or.inr (List.mem_of_mem_take h1)
      · rcases List.mem_cons.1 h1 with h1 | h1
        · exact Or.inl h1
        · exact Or.inr (List.mem_of_mem_drop h1)
    rcases this with rfl | hf
    · exact hR.kept hK8
    · exact (h.R f hf).kept hK8
  · intro h0
    have := congrArg List.length h0
    rw [hlen] at this
    simp at this
    omega
  · simp; omega
  · intro j hj hm
    have hjB : j ≠ B := fun e => hm (Or.inl e)
    refine ⟨?_, fun h' => ?_⟩
    · rw [heap_setCell_other w7 ⟨B, 1, none⟩ j _ hjB, hb7.block j (by omega), hW2, heap_setCell_other w4 ⟨B, 0, none⟩ j _ hjB, hb4.block j hj]
    · rcases h' with h' | ⟨n', cap', h'⟩
      · exact hjB h'
      · rw [World.cell?_setCell_same _ _ _ r1, e6] at h'
        have h8 : g6 = j := by injection h' with h'; injection h' with h'; injection h' with h'; injection h'
        omega
  · have b1 : Below base W1 w4 := hb4.mono (by omega)
    have b2 : Below base W1 W2 := by rw [hW2]; exact b1.setCell hBb _
    exact (b2.trans (hb7.mono (by omega))).setCell hBb _
/-- The place among the primes. -/
theorem primes_at {L : List Ent} {i : Nat} (h : i < L.length) : (primes L).getD i 0 = (L[i]).p := by simp [primes, List.getD, h]
theorem take_less {L : List Ent} {k p : Nat} (h : ∀ i, i < k → (primes L).getD i 0 < p) : ∀ e ∈ absL (L.take k), e.1 < (p : Int) := fun e he => by
  unfold absL at he
  obtain ⟨f, hf, rfl⟩ := List.mem_map.1 he
  obtain ⟨i, hi, rfl⟩ := List.getElem_of_mem hf
  have hi' := hi
  rw [List.length_take] at hi'
  have := h i (by omega)
  rw [primes_at (by omega)] at this
  rw [List.getElem_take]
  simp only
  omega
theorem rising_drop {L : List Ent} (hr : Rising (absL L)) {k p : Nat} (hk : k < L.length) (h : p < (L[k]).p) : ∀ e ∈ absL (L.drop k), (p : Int) < e.1 := fun e he => by
  have e1 : L.drop k = L[k] :: L.drop (k + 1) := List.drop_eq_getElem_cons hk
  have h1 : Rising (absL (L.drop k)) := by
    have : absL (L.drop k) = (absL L).drop k := by unfold absL; rw [List.map_drop]
    rw [this]
    exact hr.sublist (List.drop_sublist _ _)
  rw [e1] at he h1
  have h2 := List.pairwise_cons.1 (show List.Pairwise (fun a b : Int × Int => a.1 < b.1) (((L[k]).p, (L[k]).z) :: absL (L.drop (k + 1))) from h1)
  rcases List.mem_cons.1 (show e ∈ (((L[k]).p : Int), (L[k]).z) :: absL (L.drop (k + 1)) from he) with rfl | h3
  · simp only; omega
  · have := h2.1 e h3
    simp only at this
    omega
theorem put_between {L : List Ent} {k p : Nat} {x y q : Value} {z : Int} (hr : Rising (absL L)) (hlt : ∀ i, i < k → (primes L).getD i 0 < p) (hge : k < L.length → p ≤ (primes L).getD k 0) (hne : false = true ↔ (k < L.length ∧ (primes L).getD k 0 = p)) : Put (absL L) (absL (L.take k ++ ⟨p, x, y, q, z⟩ :: L.drop k)) p z := by
  have e1 : absL L = absL (L.take k) ++ absL (L.drop k) := by rw [← absL_join, List.take_append_drop]
  rw [absL_join]
  rw [e1] at hr ⊢
  refine put_new hr (take_less hlt) ?_
  rcases Nat.lt_or_ge k L.length with hk | hk
  · have h1 := hge hk
    have h2 : (primes L).getD k 0 ≠ p := fun h => by have := hne.2 ⟨hk, h⟩; cases this
    rw [primes_at hk] at h1 h2
    have h3 : p < (L[k]).p := by omega
    exact rising_drop (by rw [e1]; exact hr) hk h3
  · rw [List.drop_eq_nil_of_le hk]
    intro e he
    simp [absL] at he
theorem WideAt.apart {base M : Nat} {W : World} {B gp gc capp capc : Nat} {L : List Ent} (h : WideAt base M W B (.slice (some ⟨gp, 0, none⟩) L.length capp) (.slice (some ⟨gc, 0, none⟩) L.length capc) L) (hL : 0 < L.length) : gc ≠ B ∧ gp ≠ gc := by
  obtain ⟨e0, he0⟩ : ∃ e0, L[0]? = some e0 := ⟨_, List.getElem?_eq_getElem hL⟩
  have h7 := (flat3_at L 0 e0 he0).1
  obtain ⟨s', _, _, _, _, _, _, h8, _⟩ := Ent.parts (h.R e0 (List.mem_of_getElem? he0))
  rw [Nat.zero_mul] at h7
  have h5 := h.C.cellAt 0 (by omega)
  rw [h7, h8] at h5
  refine ⟨fun e => ?_, fun e => ?_⟩
  · have h6 := h.cp
    rw [e] at h5
    rw [h6] at h5
    cases h5
  · have h6 := h.P.cellAt 0 (by omega)
    rw [e, h5, digCells_get (by unfold primes; simpa using hL)] at h6
    cases h6
/-- A prime's coefficient, laid anew. -/
theorem wide_store {base M B k gp gc capp capc : Nat} {W1 w5 : World} {L : List Ent} {e : Ent} (h : WideAt base M W1 B (.slice (some ⟨gp, 0, none⟩) L.length capp) (.slice (some ⟨gc, 0, none⟩) L.length capc) L) (hk : k < L.length) (hb5 : Below W1.heap.size W1 w5) (hp : e.p = (L[k]).p) (hR : RatioAt w5 e.val (lowN M e.z) (lowD M e.z)) :
    WideAt base M (((w5.setCell ⟨gc, k * 3, none⟩ e.x).setCell ⟨gc, k * 3 + 1, none⟩ e.y).setCell ⟨gc, k * 3 + 2, none⟩ e.q) B (.slice (some ⟨gp, 0, none⟩) L.length capp) (.slice (some ⟨gc, 0, none⟩) L.length capc) (L.set k e) ∧ IntsKept W1 (((w5.setCell ⟨gc, k * 3, none⟩ e.x).setCell ⟨gc, k * 3 + 1, none⟩ e.y).setCell ⟨gc, k * 3 + 2, none⟩ e.q) ∧ Moved B W1 (((w5.setCell ⟨gc, k * 3, none⟩ e.x).setCell ⟨gc, k * 3 + 1, none⟩ e.y).setCell ⟨gc, k * 3 + 2, none⟩ e.q) ∧ Below base W1 (((w5.setCell ⟨gc, k * 3, none⟩ e.x).setCell ⟨gc, k * 3 + 1, none⟩ e.y).setCell ⟨gc, k * 3 + 2, none⟩ e.q) := by
  have h5 := h.later hb5
  have hL : 0 < L.length := by omega
  obtain ⟨hgB, hgp⟩ := h5.apart hL
  have hBb := h.hB
  obtain ⟨t1, g1⟩ := h5.C.stored (k * 3) e.x
  obtain ⟨t2, g2⟩ := t1.stored (k * 3 + 1) e.y
  obtain ⟨t3, g3⟩ := t2.stored (k * 3 + 2) e.q
  rw [flat3_set L k e hk] at t3
  obtain ⟨f, hf⟩ : ∃ f, L[k]? = some f := ⟨_, List.getElem?_eq_getElem hk⟩
  obtain ⟨x0, x1, x2⟩ := flat3_at L k f hf
  have hfl := flat3_length L
  have y0 := h5.C.cellAt (k * 3) (by omega)
  have y1 := h5.C.cellAt (k * 3 + 1) (by omega)
  have y2 := h5.C.cellAt (k * 3 + 2) (by omega)
  rw [x0] at y0
  rw [x1] at y1
  rw [x2] at y2
  obtain ⟨_, _, _, _, _, _, _, z0, z1, z2⟩ := Ent.parts (h5.R f (List.mem_of_getElem? hf))
  have k5 : IntsKept W1 w5 := IntsKept.of_below hb5
  have k6 := k5.trans (IntsKept.set (y := e.x) y0 (fun x e => by rw [z0] at e; cases e))
  have y1' : (w5.setCell ⟨gc, k * 3, none⟩ e.x).cell? ⟨gc, k * 3 + 1, none⟩ = some f.y := by rw [World.cell?_setCell_other _ _ _ _ (by simp)]; exact y1
  have k7 := k6.trans (IntsKept.set (y := e.y) y1' (fun x e => by rw [z1] at e; cases e))
  have y2' : ((w5.setCell ⟨gc, k * 3, none⟩ e.x).setCell ⟨gc, k * 3 + 1, none⟩ e.y).cell? ⟨gc, k * 3 + 2, none⟩ = some f.q := by rw [World.cell?_setCell_other _ _ _ _ (by simp), World.cell?_setCell_other _ _ _ _ (by simp)]; exact y2
  have k8 := k7.trans (IntsKept.set (y := e.q) y2' (fun x e => by rw [z2] at e; cases e))
  have kR : IntsKept w5 (((w5.setCell ⟨gc, k * 3, none⟩ e.x).setCell ⟨gc, k * 3 + 1, none⟩ e.y).setCell ⟨gc, k * 3 + 2, none⟩ e.q) := ((IntsKept.set (y := e.x) y0 (fun x e => by rw [z0] at e; cases e)).trans (IntsKept.set (y := e.y) y1' (fun x e => by rw [z1] at e; cases e))).trans (IntsKept.set (y := e.q) y2' (fun x e => by rw [z2] at e; cases e))
  have hcell : ∀ (b j : Nat), b ≠ gc → (((w5.setCell ⟨gc, k * 3, none⟩ e.x).setCell ⟨gc, k * 3 + 1, none⟩ e.y).setCell ⟨gc, k * 3 + 2, none⟩ e.q).cell? ⟨b, j, none⟩ = w5.cell? ⟨b, j, none⟩ := fun b j hb => by
    rw [World.cell?_setCell_far _ _ _ _ (Ne.symm hb), World.cell?_setCell_far _ _ _ _ (Ne.symm hb), World.cell?_setCell_far _ _ _ _ (Ne.symm hb)]
  have hgb : base ≤ gc := by
    rcases h5.C.2 with ⟨h, _⟩ | ⟨g, cap, cur, h, hb, _⟩
    · cases h
    · have : gc = g := by injection h with h; injection h with h; injection h
      omega
  have hpr : primes (L.set k e) = primes L := by
    unfold primes
    refine List.ext_getElem (by simp) fun i h1 h2 => ?_
    simp only [List.getElem_map, List.getElem_set]
    split
    · rename_i he; subst he; exact hp
    · rfl
  refine ⟨⟨hBb, ?_, ?_, ?_, ?_, ?_, ?_, ?_, ?_⟩, k8, ⟨?_, ?_⟩, ?_⟩
  · rw [hcell _ _ (Ne.symm hgB)]; exact h5.cp
  · rw [hcell _ _ (Ne.symm hgB)]; exact h5.cc
  · rw [World.frozen?_setCell, World.frozen?_setCell, World.frozen?_setCell]; exact h5.f0
  · rw [World.frozen?_setCell, World.frozen?_setCell, World.frozen?_setCell]; exact h5.f1
  · rw [hpr, List.length_set]
    have hne : ∀ v : Value, v = .slice (some ⟨gp, 0, none⟩) L.length capp → v.ownBlock = none ∨ v.ownBlock ≠ some gc := fun v hv => by rw [hv]; exact Or.inr (by simp [Value.ownBlock]; exact hgp)
    exact ((h5.P.kept g1 (hne _ rfl)).kept g2 (hne _ rfl)).kept g3 (hne _ rfl)
  · rw [List.length_set]; exact t3
  · intro a ha
    rcases List.mem_or_eq_of_mem_set ha with ha | rfl
    · exact (h.R a ha).kept k8
    · exact hR.kept kR
  · intro h0
    have := congrArg List.length h0
    rw [List.length_set, List.length_nil] at this
    omega
  · have := hb5.size
    simp; omega
  · intro j hj hm
    have hjg : j ≠ gc := fun e => hm (Or.inr ⟨_, _, by rw [e]; exact h.cc⟩)
    refine ⟨?_, fun h' => hm ?_⟩
    · rw [heap_setCell_other _ ⟨gc, _, none⟩ j _ hjg, heap_setCell_other _ ⟨gc, _, none⟩ j _ hjg, heap_setCell_other _ ⟨gc, _, none⟩ j _ hjg, hb5.block j hj]
    · rcases h' with h' | ⟨n', cap', h'⟩
      · exact Or.inl h'
      · rw [hcell _ _ (Ne.symm hgB), h5.cc, ← h.cc] at h'
        exact Or.inr ⟨_, _, h'⟩
  · exact (((hb5.mono (by have := h.lt; omega)).setCell hgb _).setCell hgb _).setCell hgb _
theorem put_at {L : List Ent} {k p : Nat} {x y q : Value} {z : Int} (hr : Rising (absL L)) (hk : k < L.length) (hp : (primes L).getD k 0 = p) : Put (absL L) (absL (L.set k ⟨p, x, y, q, (L[k]).z + z⟩)) p z := by
  have e1 : L = L.take k ++ L[k] :: L.drop (k + 1) := by
    rw [← List.drop_eq_getElem_cons hk, List.take_append_drop]
  have e2 : L.set k ⟨p, x, y, q, (L[k]).z + z⟩ = L.take k ++ ⟨p, x, y, q, (L[k]).z + z⟩ :: L.drop (k + 1) := List.set_eq_take_append_cons_drop.trans (by rw [if_pos hk])
  have hpk : (L[k]).p = p := by rw [← primes_at hk]; exact hp
  have e3 : absL L = absL (L.take k) ++ ((p : Int), (L[k]).z) :: absL (L.drop (k + 1)) := by
    conv => lhs; rw [e1]
    rw [absL_join, ← hpk]
    rfl
  rw [e2, absL_join]
  rw [e3] at hr ⊢
  exact put_found hr
end Go.Proofs.YtmdimdoglpiiiaaGreatDoor

/- (*Wide).Prime. -/
namespace Go.Proofs.YtmdimdoglpiiiaaGreatDoor
open Go.RowKit

theorem Tryz.infoRatio : (Tryz.prog.info? 37).map (fun i => (i.zero, i.size, i.bytes)) = some (some (.agg #[.bool false, .slice none 0 0, .slice none 0 0]), 3, 56) := by kernel_rfl
theorem dig_one (l : List Nat) : ∀ u ∈ digCells l, u.oneCell' = true := fun u hu => by
  unfold digCells at hu
  obtain ⟨d, _, rfl⟩ := List.mem_map.1 hu
  rfl

end Go.Proofs.YtmdimdoglpiiiaaGreatDoor

/- (*Wide).Prime in general. -/
namespace Go.Proofs.YtmdimdoglpiiiaaGreatDoor
open Go.RowKit

end Go.Proofs.YtmdimdoglpiiiaaGreatDoor

/- (*Wide).Number: the logarithm of a number, so often. -/
namespace Go.Proofs.YtmdimdoglpiiiaaGreatDoor
open Go.RowKit

theorem absL_length (L : List Ent) : (absL L).length = L.length := by unfold absL; simp
theorem absL_mem {L : List Ent} {e : Ent} (h : e ∈ L) : ((e.p : Int), e.z) ∈ absL L := List.mem_map.2 ⟨e, h, rfl⟩

/-- What Number keeps: n is left, k factors are put. -/
structure InNum (base M B : Nat) (W0 wr : World) (z : Int) (L0 : List Ent) (n0 n k : Nat) (vp vc : Value) (L : List Ent) : Prop where
  wide : WideAt base M wr B vp vc L
  rise : Rising (absL L)
  val : ∀ x, atL (absL L) x + z * multI x n = atL (absL L0) x + z * multI x n0
  cnt : 2 ^ k * n ≤ n0
  len : L.length ≤ L0.length + k
  kept : IntsKept W0 wr
  moved : Moved B W0 wr
  below : Below base W0 wr

theorem InNum.cnt_le {base M B : Nat} {W0 wr : World} {z : Int} {L0 : List Ent} {n0 n k : Nat} {vp vc : Value} {L : List Ent} (h : InNum base M B W0 wr z L0 n0 n k vp vc L) (hn : 0 < n) (hn06 : n0 ≤ 1000000) : k ≤ 19 := by
  rcases Nat.lt_or_ge 19 k with h' | h'
  · have h1 := h.cnt
    have h2 : 2 ^ 20 ≤ 2 ^ k := Nat.pow_le_pow_right (by decide) h'
    have h3 : (2 : Nat) ^ 20 = 1048576 := by decide
    have h4 := Nat.mul_le_mul_left (2 ^ k) hn
    omega
  · exact h'
theorem InNum.coef {base M B : Nat} {W0 wr : World} {z : Int} {L0 : List Ent} {n0 n k : Nat} {vp vc : Value} {L : List Ent} (h : InNum base M B W0 wr z L0 n0 n k vp vc L) (hn : 0 < n) (hn6 : n ≤ 1000000) (hn0 : 0 < n0) (hn06 : n0 ≤ 1000000) {E : Nat} (hb : ∀ x, (atL (absL L0) x).natAbs + 20 * z.natAbs < E) : ∀ e ∈ L, e.z.natAbs < E := fun e he => by
  have h0 := atL_mem h.rise (absL_mem he)
  simp only at h0
  have h1 := h.val e.p
  have h2 := hb e.p
  have h3 := multI_nonneg e.p n
  have h4 := multI_le e.p hn hn6
  have h5 := multI_nonneg e.p n0
  have h6 := multI_le e.p hn0 hn06
  rw [h0] at h1
  have h7 : e.z = atL (absL L0) e.p + z * (multI e.p n0 - multI e.p n) := by rw [Int.mul_sub]; omega
  have h8 : (z * (multI e.p n0 - multI e.p n)).natAbs ≤ z.natAbs * 19 := by
    rw [Int.natAbs_mul]
    exact Nat.mul_le_mul_left _ (by omega)
  have h9 := Int.natAbs_add_le (atL (absL L0) e.p) (z * (multI e.p n0 - multI e.p n))
  rw [← h7] at h9
  omega
theorem InNum.put {base M B : Nat} {W0 wr w1 : World} {z : Int} {L0 : List Ent} {n0 n k d : Nat} {vp vc vp' vc' : Value} {L L' : List Ent} (h : InNum base M B W0 wr z L0 n0 n k vp vc L) (hn : 0 < n) (hd : Pr d) (hm : n % d = 0)
    (hw : WideAt base M w1 B vp' vc' L') (hp : Put (absL L) (absL L') d z) (hk : IntsKept wr w1) (hmv : Moved B wr w1) (hb : Below base wr w1) : InNum base M B W0 w1 z L0 n0 (n / d) (k + 1) vp' vc' L' := by
  refine ⟨hw, hp.rise, fun x => ?_, ?_, ?_, h.kept.trans hk, h.moved.trans hmv, h.below.trans hb⟩
  · rw [hp.val x, ← h.val x, multI_step x hn hd hm, Int.mul_add]
    by_cases hx : x = (d : Int)
    · rw [if_pos hx, if_pos hx, Int.mul_one]; omega
    · rw [if_neg hx, if_neg hx, Int.mul_zero]; omega
  · have h1 := h.cnt
    have h2 : 2 * (n / d) ≤ n := by
      have h3 := Nat.mul_le_mul_right (n / d) hd.1
      have h4 := Nat.mul_div_le n d
      omega
    have h5 := Nat.mul_le_mul_left (2 ^ k) h2
    rw [Nat.pow_succ, Nat.mul_assoc]
    omega
  · have h1 := hp.len
    have h2 := h.len
    rw [absL_length, absL_length] at h1
    omega
/-- A new block is none of a Wide's own. -/
theorem WideAt.not_mine {base M : Nat} {W : World} {B : Nat} {vp vc : Value} {L : List Ent} (h : WideAt base M W B vp vc L) (X : Obj) : ¬ Mine B (W.alloc X) W.heap.size := by
  have hB := h.lt
  have hb : Below W.heap.size W (W.alloc X) := new_below _ _
  rintro (h1 | ⟨n, cap, h1⟩)
  · omega
  · rw [(h.later hb).cc] at h1
    have hv := Option.some.inj h1
    subst hv
    rcases h.C.2 with ⟨h2, _⟩ | ⟨g, c, cur, h2, _, h3, _⟩
    · cases h2
    · have h4 : W.heap.size = g := by injection h2 with h2; injection h2 with h2; injection h2
      have h5 := h.C.lt g (by rw [h2]; rfl)
      omega

def numMeas (t r : Nat) : Nat := if t ≤ 1 then 0 else 2000 - r
theorem numMeas_lt {n d m e : Nat} (h : 1 < n) (hd : d ≤ 1001) (h' : m ≤ 1 ∨ d < e) : numMeas m e < numMeas n d := by
  unfold numMeas
  rw [if_neg (show ¬ n ≤ 1 by omega)]
  by_cases hm : m ≤ 1
  · rw [if_pos hm]; omega
  · rw [if_neg hm]; omega

end Go.Proofs.YtmdimdoglpiiiaaGreatDoor

/- (*Wide).Log: a logarithm, so often. -/
namespace Go.Proofs.YtmdimdoglpiiiaaGreatDoor
open Go.RowKit

/-- The coefficients of a number among the first k terms. -/
def sumAt (p c : Nat → Int) (x : Int) : Nat → Int
  | 0 => 0
  | k + 1 => sumAt p c x k + if x = p k then c k else 0
theorem LogAt.kept {w w' : World} {sv : Value} {n : Nat} {p c : Nat → Int} (h : LogAt w sv n p c) (hk : IntsKept w w') : LogAt w' sv n p c := by
  rcases h with h | ⟨b, o, cap, h1, h2, h3⟩
  · exact Or.inl h
  · exact Or.inr ⟨b, o, cap, h1, h2, fun k hk' => ⟨hk _ _ (h3 k hk').1, hk _ _ (h3 k hk').2⟩⟩
theorem LogAt.cellsOf {w : World} {ad : Option Addr} {n cap : Nat} {p c : Nat → Int} (h : LogAt w (.slice ad n cap) n p c) {k : Nat} (hk : k < n) : ∃ b o, ad = some ⟨b, o, none⟩ ∧ w.cell? ⟨b, o + k * 2, none⟩ = some (.int .i64 (p k)) ∧ w.cell? ⟨b, o + k * 2 + 1, none⟩ = some (.int .i64 (c k)) := by
  rcases h with ⟨_, _, _, rfl⟩ | ⟨b, o, _, h1, _, h3⟩
  · omega
  · simp only [Value.slice.injEq] at h1
    exact ⟨b, o, h1.1, h3 k hk⟩
theorem WideAt.not_mine' {base M : Nat} {w W : World} {B : Nat} {vp vc : Value} {L : List Ent} (h : WideAt base M w B vp vc L) (hb : Below w.heap.size w W) {k : Nat} (hk : w.heap.size ≤ k) : ¬ Mine B W k := by
  have hB := h.lt
  rintro (h1 | ⟨n, cap, h1⟩)
  · omega
  · rw [(h.later hb).cc] at h1
    have hv := Option.some.inj h1
    subst hv
    rcases h.C.2 with ⟨h2, _⟩ | ⟨g, c, cur, h2, _, h3, _⟩
    · cases h2
    · have h4 : k = g := by injection h2 with h2; injection h2 with h2; injection h2
      have h5 := h.C.lt g (by rw [h2]; rfl)
      omega
/-- A coefficient of a logarithm times a fraction, over M. -/
theorem coef_low {M d xd m : Nat} {xn c : Int} (hM : M = d * xd * m) (hM0 : 0 < M) : (xn * c.tdiv ((Nat.gcd c.natAbs d : Nat) : Int)).tdiv ((Nat.gcd (xn * c.tdiv ((Nat.gcd c.natAbs d : Nat) : Int)).natAbs (xd * (d / Nat.gcd c.natAbs d)) : Nat) : Int) = lowN M (xn * m * c) ∧ xd * (d / Nat.gcd c.natAbs d) / Nat.gcd (xn * c.tdiv ((Nat.gcd c.natAbs d : Nat) : Int)).natAbs (xd * (d / Nat.gcd c.natAbs d)) = lowD M (xn * m * c) := by
  have hd : 0 < d := Nat.pos_of_ne_zero fun h => by rw [h, Nat.zero_mul, Nat.zero_mul] at hM; omega
  have hx : 0 < xd := Nat.pos_of_ne_zero fun h => by rw [h, Nat.mul_zero, Nat.zero_mul] at hM; omega
  obtain ⟨g1, g2, g3, _, _, g6⟩ := low_parts (n := c) hd
  refine low_same hM0 (Nat.mul_pos hx g6) ?_
  have h3 : (d : Int) = ((Nat.gcd c.natAbs d : Nat) : Int) * ((d / Nat.gcd c.natAbs d : Nat) : Int) := by rw [← Int.natCast_mul, ← g3]
  rw [hM, Int.natCast_mul, Int.natCast_mul, Int.natCast_mul]
  generalize Nat.gcd c.natAbs d = g at *
  generalize ((d / g : Nat) : Int) = e at *
  generalize c.tdiv (g : Int) = f at *
  rw [h3]
  conv => rhs; rw [g2]
  grind

/-- What Log keeps: k terms are put. -/
structure InLog (base M B : Nat) (W0 wr : World) (F : Int) (p c : Nat → Int) (L0 : List Ent) (k : Nat) (vp vc : Value) (L : List Ent) : Prop where
  wide : WideAt base M wr B vp vc L
  rise : Rising (absL L)
  val : ∀ x, atL (absL L) x = atL (absL L0) x + F * sumAt p c x k
  len : L.length ≤ L0.length + k
  kept : IntsKept W0 wr
  moved : Moved B W0 wr
  below : Below base W0 wr
theorem InLog.put {base M B : Nat} {W0 wr w1 : World} {F : Int} {p c : Nat → Int} {L0 : List Ent} {k q : Nat} {vp vc vp' vc' : Value} {L L' : List Ent} (h : InLog base M B W0 wr F p c L0 k vp vc L) (hq : p k = (q : Int))
    (hw : WideAt base M w1 B vp' vc' L') (hp : Put (absL L) (absL L') q (F * c k)) (hk : IntsKept wr w1) (hmv : Moved B wr w1) (hb : Below base wr w1) : InLog base M B W0 w1 F p c L0 (k + 1) vp' vc' L' := by
  refine ⟨hw, hp.rise, fun x => ?_, ?_, h.kept.trans hk, h.moved.trans hmv, h.below.trans hb⟩
  · rw [hp.val x, h.val x]
    show _ = _ + F * (sumAt p c x k + if x = p k then c k else 0)
    rw [Int.mul_add, hq]
    by_cases hx : x = (q : Int)
    · rw [if_pos hx, if_pos hx]; omega
    · rw [if_neg hx, if_neg hx, Int.mul_zero]; omega
  · have h1 := hp.len
    have h2 := h.len
    rw [absL_length, absL_length] at h1
    omega
theorem InLog.coef {base M B : Nat} {W0 wr : World} {F : Int} {p c : Nat → Int} {L0 : List Ent} {k E : Nat} {vp vc : Value} {L : List Ent} (h : InLog base M B W0 wr F p c L0 k vp vc L) (hb : ∀ x, (atL (absL L0) x + F * sumAt p c x k).natAbs < E) : ∀ e ∈ L, e.z.natAbs < E := fun e he => by
  have h0 := atL_mem h.rise (absL_mem he)
  simp only at h0
  rw [← h0, h.val]
  exact hb _

end Go.Proofs.YtmdimdoglpiiiaaGreatDoor

/- The common denominator of fractions, and what is told over it. -/
namespace Go.Proofs.YtmdimdoglpiiiaaGreatDoor

theorem lcm_quot {M G H : Nat} (hM : 0 < M) (hG : G ∣ M) (hH : H ∣ M) : (M / G) * ((M / H) / Nat.gcd (M / G) (M / H)) = M / Nat.gcd G H := by
  obtain ⟨a, ha⟩ := hG
  obtain ⟨b, hb⟩ := hH
  have hG0 : 0 < G := Nat.pos_of_ne_zero fun h => by rw [h, Nat.zero_mul] at ha; omega
  have hH0 : 0 < H := Nat.pos_of_ne_zero fun h => by rw [h, Nat.zero_mul] at hb; omega
  have ha0 : 0 < a := Nat.pos_of_ne_zero fun h => by rw [h, Nat.mul_zero] at ha; omega
  have e1 : M / G = a := by rw [ha]; exact Nat.mul_div_cancel_left _ hG0
  have e2 : M / H = b := by rw [hb]; exact Nat.mul_div_cancel_left _ hH0
  rw [e1, e2]
  have hk : 0 < Nat.gcd G H := Nat.gcd_pos_of_pos_left _ hG0
  have hc := Nat.coprime_div_gcd_div_gcd hk
  have eG : G = Nat.gcd G H * (G / Nat.gcd G H) := (Nat.mul_div_cancel' (Nat.gcd_dvd_left _ _)).symm
  have eH : H = Nat.gcd G H * (H / Nat.gcd G H) := (Nat.mul_div_cancel' (Nat.gcd_dvd_right _ _)).symm
  generalize Nat.gcd G H = k at *
  generalize G / k = g at *
  generalize H / k = h at *
  have h1 : g * a = h * b := by
    have : k * (g * a) = k * (h * b) := by rw [← Nat.mul_assoc, ← Nat.mul_assoc, ← eG, ← eH, ← ha, ← hb]
    exact Nat.eq_of_mul_eq_mul_left hk this
  obtain ⟨c, rfl⟩ : g ∣ b := hc.dvd_of_dvd_mul_left ⟨a, h1.symm⟩
  have hg0 : 0 < g := Nat.pos_of_ne_zero fun e => by rw [e, Nat.mul_zero] at eG; omega
  have h2 : a = h * c := by
    have : g * a = g * (h * c) := by rw [h1]; grind
    exact Nat.eq_of_mul_eq_mul_left hg0 this
  subst h2
  have hc0 : 0 < c := Nat.pos_of_ne_zero fun e => by rw [e, Nat.mul_zero] at ha0; omega
  have h3 : Nat.gcd (h * c) (g * c) = c := by rw [Nat.gcd_mul_right, hc.symm, Nat.one_mul]
  rw [h3, Nat.mul_div_cancel _ hc0, ha, eG]
  rw [show k * g * (h * c) = k * (h * c * g) by grind, Nat.mul_div_cancel_left _ hk]

theorem den_step {M G : Nat} {z : Int} (hM : 0 < M) (hG : G ∣ M) : (M / G) * (lowD M z / Nat.gcd (M / G) (lowD M z)) = M / Nat.gcd G z.natAbs := by
  unfold lowD
  rw [lcm_quot hM hG (show lowG M z ∣ M from Nat.gcd_dvd_right _ _)]
  congr 1
  unfold lowG
  refine Nat.dvd_antisymm ?_ ?_
  · exact Nat.dvd_gcd (Nat.gcd_dvd_left _ _) (Nat.dvd_trans (Nat.gcd_dvd_right _ _) (Nat.gcd_dvd_left _ _))
  · exact Nat.dvd_gcd (Nat.gcd_dvd_left _ _) (Nat.dvd_gcd (Nat.gcd_dvd_right _ _) (Nat.dvd_trans (Nat.gcd_dvd_left _ _) hG))

/-- A coefficient times the common denominator is whole. -/
theorem coef_whole {M G : Nat} {z : Int} (hM : 0 < M) (hG : G ∣ M) (hz : G ∣ z.natAbs) : (lowN M z * ((M / G : Nat) : Int)).tdiv ((Nat.gcd (lowN M z * ((M / G : Nat) : Int)).natAbs (lowD M z * 1) : Nat) : Int) = z.tdiv (G : Int) ∧ lowD M z * 1 / Nat.gcd (lowN M z * ((M / G : Nat) : Int)).natAbs (lowD M z * 1) = 1 := by
  have hG0 : 0 < G := Nat.pos_of_dvd_of_pos hG hM
  have h1 := low_cross hM z
  have h2 : z = (G : Int) * z.tdiv (G : Int) := (Int.mul_tdiv_cancel' (Int.ofNat_dvd_left.2 hz)).symm
  have h3 : (M : Int) = (G : Int) * ((M / G : Nat) : Int) := by rw [← Int.natCast_mul, Nat.mul_div_cancel' hG]
  have h4 : lowN M z * ((M / G : Nat) : Int) * ((1 : Nat) : Int) = z.tdiv (G : Int) * ((lowD M z * 1 : Nat) : Int) := by
    rw [Nat.mul_one]
    generalize lowN M z = a at *
    generalize (lowD M z : Int) = d at *
    generalize ((M / G : Nat) : Int) = m at *
    have h5 : (G : Int) * (a * m * ((1 : Nat) : Int)) = (G : Int) * (z.tdiv (G : Int) * d) := by
      rw [h3] at h1
      generalize z.tdiv (G : Int) = q at *
      rw [h2] at h1
      have : a * ((G : Int) * m) = (G : Int) * q * d := h1
      grind
    exact Int.eq_of_mul_eq_mul_left (by omega) h5
  have h6 := low_same (M := 1) (z := z.tdiv (G : Int)) (by decide) (Nat.mul_pos (lowD_pos hM z) (by decide)) h4
  rw [(low_one _).1, (low_one _).2] at h6
  exact h6
theorem gList_dvd_base (L : List Int) (g : Nat) : gList g L ∣ g := (gList_dvd L g).1
end Go.Proofs.YtmdimdoglpiiiaaGreatDoor

/- (*Wide).Told: a sum in form, or the bound's number. -/
namespace Go.Proofs.YtmdimdoglpiiiaaGreatDoor
open Go.RowKit

theorem InOut.later {w1 wr wn : World} {d : Int} {sv : Value} {n : Nat} {xs : List Value} (h : InOut w1 wr d sv n xs) (hb : Below wr.heap.size wr wn) : InOut w1 wn d sv n xs :=
  ⟨below_chain h.keep hb, (cell_past h.o0 hb).2, (cell_past h.o1 hb).2, (frozen_past h.o1 h.fz hb).2, ownsRow_past h.row hb⟩

theorem InOut.grows {w1 wr w3 : World} {d : Int} {sv : Value} {n : Nat} {xs : List Value} {X : Obj} (h : InOut w1 wr d sv n xs) (hg : (wr.alloc X).grownBy w3 sv.ownBlock) : Below (w1.heap.size + 1) wr w3 := by
  have hB := cell_lt h.o0
  simp only at hB
  exact ((Below.refl _ _).alloc (by omega) _).grown hg (by simp; omega) (fun k e => (h.row.lt k e).1)
/-- A fraction's box, ahead of its store. -/
structure NewBox3 (W0 W : World) (B : Nat) : Prop where
  c0 : W.cell? ⟨B, 0, none⟩ = some (.bool false)
  c1 : W.cell? ⟨B, 1, none⟩ = some (.slice none 0 0)
  c2 : W.cell? ⟨B, 2, none⟩ = some (.slice none 0 0)
  f0 : W.frozen? ⟨B, 0, none⟩ = false
  f1 : W.frozen? ⟨B, 1, none⟩ = false
  f2 : W.frozen? ⟨B, 2, none⟩ = false
  no : NoInts W B
  hB : W0.heap.size ≤ B
theorem NewBox3.later {W0 W W' : World} {B : Nat} (h : NewBox3 W0 W B) (hb : Below W.heap.size W W') : NewBox3 W0 W' B :=
  ⟨(cell_past h.c0 hb).2, (cell_past h.c1 hb).2, (cell_past h.c2 hb).2, (frozen_past h.c0 h.f0 hb).2, (frozen_past h.c1 h.f1 hb).2, (frozen_past h.c2 h.f2 hb).2, h.no.later (cell_lt h.c0) hb, h.hB⟩
theorem newBox3_new {W0 W : World} (h : Below W0.heap.size W0 W) : NewBox3 W0 (W.alloc (.cells #[.bool false, .slice none 0 0, .slice none 0 0] 37)) W.heap.size :=
  ⟨by simp, by simp, by simp, by simp, by simp, by simp, noInts_new3 W false none 0 0 none 0 0 _, h.size⟩
theorem newBox3_of {W0 W W' : World} (h : Below W0.heap.size W0 W) (hb : Below (W.alloc (.cells #[.bool false, .slice none 0 0, .slice none 0 0] 37)).heap.size (W.alloc (.cells #[.bool false, .slice none 0 0, .slice none 0 0] 37)) W') : NewBox3 W0 W' W.heap.size :=
  (newBox3_new h).later hb
/-- A fraction's box: its sign and size. -/
structure RatBox (W0 W : World) (B : Nat) (z : Int) : Prop where
  below : Below W0.heap.size W0 W
  box : ∃ u, W.cell? ⟨B, 0, none⟩ = some (.bool (decide (z < 0))) ∧ W.cell? ⟨B, 1, none⟩ = some u ∧ BigAt W u z.natAbs
theorem ratBox_late {W0 W : World} {z : Int} {ad : Option Addr} {l cap : Nat} {v : Value} (h : Below W0.heap.size W0 W) (hu : BigAt W (.slice ad l cap) z.natAbs) : RatBox W0 (W.alloc (.cells #[.bool (decide (z < 0)), .slice ad l cap, v] 37)) W.heap.size z :=
  ⟨more_below h _, ⟨.slice ad l cap, by rw [World.cell?_alloc_at _ _ _ _ rfl]; rfl, by rw [World.cell?_alloc_at _ _ _ _ rfl]; rfl, hu.later (new_below _ _)⟩⟩
theorem ratBox_soon {W0 W : World} {B : Nat} {z : Int} {ad ad' : Option Addr} {l cap l' cap' : Nat} (h : Below W0.heap.size W0 W) (hu : BigAt W (.slice ad l cap) z.natAbs) (hn : NewBox3 W0 W B) : RatBox W0 (((W.setCell ⟨B, 0, none⟩ (.bool (decide (z < 0)))).setCell ⟨B, 1, none⟩ (.slice ad l cap)).setCell ⟨B, 2, none⟩ (.slice ad' l' cap')) B z :=
  ⟨below_set3 h hn.hB _ _ _, ⟨.slice ad l cap, by rw [World.cell?_setCell_other _ _ _ _ (by simp), World.cell?_setCell_other _ _ _ _ (by simp)]; exact World.cell?_setCell_same _ _ _ hn.c0, by rw [World.cell?_setCell_other _ _ _ _ (by simp)]; exact World.cell?_setCell_same _ _ _ (by rw [World.cell?_setCell_other _ _ _ _ (by simp)]; exact hn.c1), hu.set3 hn.no hn.c0 hn.c1⟩⟩

def zsOf (L : List Ent) : List Int := L.map Ent.z
def gT (M : Nat) (L : List Ent) (k : Nat) : Nat := gList M ((zsOf L).take k)
theorem zsOf_length (L : List Ent) : (zsOf L).length = L.length := by unfold zsOf; simp
theorem gT_succ (M : Nat) {L : List Ent} {k : Nat} {f : Ent} (hf : L[k]? = some f) : gT M L (k + 1) = Nat.gcd (gT M L k) f.z.natAbs := by
  have hk : k < L.length := (List.getElem?_eq_some_iff.1 hf).1
  have hz : (zsOf L)[k]? = some f.z := by unfold zsOf; rw [List.getElem?_map, hf]; rfl
  have h1 : (zsOf L).take (k + 1) = (zsOf L).take k ++ [f.z] := by
    rw [List.take_succ_eq_append_getElem (by rw [zsOf_length]; exact hk)]
    rw [List.getElem?_eq_getElem (by rw [zsOf_length]; exact hk)] at hz
    rw [Option.some.inj hz]
  unfold gT
  rw [h1, gList_append]
theorem gT_dvd (M : Nat) (L : List Ent) (k : Nat) : gT M L k ∣ M := gList_dvd_base _ _
theorem gT_all (M : Nat) (L : List Ent) : gT M L L.length = gList M (zsOf L) := by unfold gT; rw [← zsOf_length, List.take_length]
theorem den_lt {M E : Nat} (h : M < E) (L : List Ent) (k : Nat) : M / gT M L k < E := Nat.lt_of_le_of_lt (Nat.div_le_self _ _) h
theorem den_pos {M : Nat} (h : 0 < M) (L : List Ent) (k : Nat) : 0 < M / gT M L k := Nat.div_pos (Nat.le_of_dvd h (gT_dvd M L k)) (Nat.pos_of_dvd_of_pos (gT_dvd M L k) h)
theorem den_next {M : Nat} (h : 0 < M) {L : List Ent} {k : Nat} {f : Ent} (hf : L[k]? = some f) : (M / gT M L k) * (lowD M f.z / Nat.gcd (M / gT M L k) (lowD M f.z)) = M / gT M L (k + 1) := by
  rw [gT_succ M hf]; exact den_step h (gT_dvd M L k)
theorem over_next {G : Nat} {L : List Ent} {k : Nat} {f : Ent} (hf : L[k]? = some f) : overL G (absL (L.take (k + 1))) = overL G (absL (L.take k)) ++ if f.z.tdiv (G : Int) = 0 then [] else [((f.p : Int), f.z.tdiv (G : Int))] := by
  have hk : k < L.length := (List.getElem?_eq_some_iff.1 hf).1
  have h1 : L.take (k + 1) = L.take k ++ [f] := by
    rw [List.take_succ_eq_append_getElem hk]
    rw [List.getElem?_eq_getElem hk] at hf
    rw [Option.some.inj hf]
  rw [h1, absL_join]
  unfold overL
  rw [List.map_append, List.filter_append]
  congr 1
  by_cases h : f.z.tdiv (G : Int) = 0
  · rw [if_pos h]; simp [absL, h]
  · rw [if_neg h]; simp [absL, h]
theorem take_len_le {G : Nat} (L : List Ent) (k : Nat) : (overL G (absL (L.take k))).length ≤ L.length := by
  have h1 := length_over (absL (L.take k)) G
  rw [absL_length, List.length_take] at h1
  omega
def FitsW (M G : Nat) (L : List Ent) : Prop := M / G ≤ 1000000 ∧ ∀ e ∈ L, (e.z.tdiv (G : Int)).natAbs ≤ 1099511627776
/-- A place of a Wide, cell by cell. -/
theorem WideAt.cells {base M B : Nat} {W : World} {adp adc : Option Addr} {np nc capp capc : Nat} {L : List Ent} (h : WideAt base M W B (.slice adp np capp) (.slice adc nc capc) L) {k : Nat} {f : Ent} (hf : L[k]? = some f) : ∃ gp gc, adp = some ⟨gp, 0, none⟩ ∧ adc = some ⟨gc, 0, none⟩ ∧ W.cell? ⟨gp, k, none⟩ = some (.int .i64 (f.p : Int)) ∧ W.cell? ⟨gc, k * 3, none⟩ = some f.x ∧ W.cell? ⟨gc, k * 3 + 1, none⟩ = some f.y ∧ W.cell? ⟨gc, k * 3 + 2, none⟩ = some f.q := by
  have hk : k < L.length := (List.getElem?_eq_some_iff.1 hf).1
  have hfk : L[k] = f := (List.getElem?_eq_some_iff.1 hf).2
  obtain ⟨gp, cp, e1, _⟩ := h.P.form (by omega)
  obtain ⟨gc, cc, e2, _⟩ := h.C.form (by omega)
  simp only [Value.slice.injEq] at e1 e2
  obtain ⟨rfl, rfl, rfl⟩ := e1
  obtain ⟨rfl, rfl, rfl⟩ := e2
  have hfl := flat3_length L
  obtain ⟨x0, x1, x2⟩ := flat3_at L k f hf
  refine ⟨gp, gc, rfl, rfl, ?_, ?_, ?_, ?_⟩
  · rw [h.P.cellAt k (by omega), digCells_get (by unfold primes; simpa using hk), primes_at hk, hfk]
  · rw [h.C.cellAt _ (by omega), x0]
  · rw [h.C.cellAt _ (by omega), x1]
  · rw [h.C.cellAt _ (by omega), x2]
end Go.Proofs.YtmdimdoglpiiiaaGreatDoor

/- (*Wide).Told, walked. -/
namespace Go.Proofs.YtmdimdoglpiiiaaGreatDoor
open Go.RowKit

theorem nat_not_neg (n : Nat) : ¬ ((n : Int) < 0) := by omega

end Go.Proofs.YtmdimdoglpiiiaaGreatDoor

/- The law's isLog. -/
namespace Go.Proofs.YtmdimdoglpiiiaaGreatDoor
open Go.RowKit

theorem same_own (den : Int) (v1 v2 : Value) (n : Nat) (p c : Nat → Int) (w : World) (h1 : OwnAt w v1 n p c) (h2 : OwnAt w v2 n p c) (hn : n ≤ 1000000) :
    Calls Tryz.prog 16 #[.agg #[.int .i64 den, v1], .agg #[.int .i64 den, v2]] w fun e w' => e = .returned (.bool true) ∧ Below w.heap.size w w' := by
  rcases h1 with ⟨rfl, rfl⟩ | ⟨g1, c1, rfl, t1⟩
  · rcases h2 with ⟨rfl, _⟩ | ⟨g2, c2, rfl, t2⟩
    · exact SameLog_none den none none 0 0 w
    · exact SameLog_none den none _ 0 c2 w
  · rcases h2 with ⟨rfl, rfl⟩ | ⟨g2, c2, rfl, t2⟩
    · exact SameLog_none den _ none c1 0 w
    · exact SameLog_some den g1 0 c1 g2 0 c2 n p c w t1 t2 hn
theorem own_form {w : World} {v : Value} {n : Nat} {p c : Nat → Int} (h : OwnAt w v n p c) : ∃ ad m cap, v = .slice ad m cap := by
  rcases h with ⟨rfl, _⟩ | ⟨g, cap, rfl, _⟩
  · exact ⟨_, _, _, rfl⟩
  · exact ⟨_, _, _, rfl⟩

end Go.Proofs.YtmdimdoglpiiiaaGreatDoor

/- The document's LogSum. -/
namespace Go.Proofs.YtmdimdoglpiiiaaGreatDoor
open Go.RowKit

def FitsL (M G : Nat) (l : List (Int × Int)) : Prop := M / G ≤ 1000000 ∧ ∀ e ∈ l, (e.2.tdiv (G : Int)).natAbs ≤ 1099511627776
theorem fits_iff (M G : Nat) (L : List Ent) : FitsW M G L ↔ FitsL M G (absL L) := by
  unfold FitsW FitsL
  constructor
  · rintro ⟨h1, h2⟩
    refine ⟨h1, fun e he => ?_⟩
    obtain ⟨f, hf, rfl⟩ := List.mem_map.1 he
    exact h2 f hf
  · rintro ⟨h1, h2⟩
    exact ⟨h1, fun e he => h2 _ (absL_mem he)⟩
theorem zs_abs (L : List Ent) : zsOf L = (absL L).map Prod.snd := by unfold zsOf absL; rw [List.map_map]; rfl
theorem bool_of (P : Prop) : ∃ b : Bool, b = true ↔ P := by
  by_cases h : P
  · exact ⟨true, ⟨fun _ => h, fun _ => rfl⟩⟩
  · exact ⟨false, ⟨(fun e => by cases e), (fun e => absurd e h)⟩⟩
/-- What is told of a sum l over M: in form, or the bound. -/
def ToldOf (M : Nat) (l : List (Int × Int)) (w : World) (dn : Int) (v : Value) (code : Int) : Prop := (FitsL M (gList M (l.map Prod.snd)) l ∧ dn = ((M / gList M (l.map Prod.snd) : Nat) : Int) ∧ code = 0 ∧ ListAt w v (overL (gList M (l.map Prod.snd)) l)) ∨ (¬ FitsL M (gList M (l.map Prod.snd)) l ∧ dn = 0 ∧ v = .slice none 0 0 ∧ code = 2)

end Go.Proofs.YtmdimdoglpiiiaaGreatDoor

/- logs.Add where the sum has a form. -/
namespace Go.Proofs.YtmdimdoglpiiiaaGreatDoor
open Go.RowKit Go.Maps

/-- What the walk of Add keeps from a world on. -/
structure AddKeeps (B : Nat) (da db : Nat) (s1 s2 : Value) (n1 n2 : Nat) (t1 t2 : List (Int × Int)) (W : World) : Prop where
  a0 : W.cell? ⟨B, 0, none⟩ = some (.int .i64 da)
  a1 : W.cell? ⟨B, 1, none⟩ = some s1
  b0 : W.cell? ⟨B + 1, 0, none⟩ = some (.int .i64 db)
  b1 : W.cell? ⟨B + 1, 1, none⟩ = some s2
  r0 : W.cell? ⟨B + 1 + 1, 0, none⟩ = some (.int .i64 0)
  r1 : W.cell? ⟨B + 1 + 1, 1, none⟩ = some (.slice none 0 0)
  f0 : W.frozen? ⟨B + 1 + 1, 0, none⟩ = false
  f1 : W.frozen? ⟨B + 1 + 1, 1, none⟩ = false
  l1 : LogAt W s1 n1 (pOf t1) (cOf t1)
  l2 : LogAt W s2 n2 (pOf t2) (cOf t2)
theorem AddKeeps.later {B da db : Nat} {s1 s2 : Value} {n1 n2 : Nat} {t1 t2 : List (Int × Int)} {W W' : World} (h : AddKeeps B da db s1 s2 n1 n2 t1 t2 W) (hb : Below W.heap.size W W') : AddKeeps B da db s1 s2 n1 n2 t1 t2 W' :=
  ⟨(cell_past h.a0 hb).2, (cell_past h.a1 hb).2, (cell_past h.b0 hb).2, (cell_past h.b1 hb).2, (cell_past h.r0 hb).2, (cell_past h.r1 hb).2, (frozen_past h.r0 h.f0 hb).2, (frozen_past h.r1 h.f1 hb).2, h.l1.later hb, h.l2.later hb⟩

theorem box_past {w3 w4 : World} {x y : Value} {t : TypeId} (hb : Below ((w3.alloc (.cells #[x, y] t)).drew).heap.size ((w3.alloc (.cells #[x, y] t)).drew) w4) : w4.cell? ⟨w3.heap.size, 0, none⟩ = some x ∧ w4.cell? ⟨w3.heap.size, 1, none⟩ = some y ∧ w4.frozen? ⟨w3.heap.size, 0, none⟩ = false ∧ w4.frozen? ⟨w3.heap.size, 1, none⟩ = false := by
  have h : Below (w3.alloc (.cells #[x, y] t)).heap.size (w3.alloc (.cells #[x, y] t)) w4 := below_chain ((Below.refl _ _).drew) hb
  have c0 : (w3.alloc (.cells #[x, y] t)).cell? ⟨w3.heap.size, 0, none⟩ = some x := by rw [World.cell?_alloc_at _ _ _ _ rfl]; rfl
  have c1 : (w3.alloc (.cells #[x, y] t)).cell? ⟨w3.heap.size, 1, none⟩ = some y := by rw [World.cell?_alloc_at _ _ _ _ rfl]; rfl
  exact ⟨(cell_past c0 h).2, (cell_past c1 h).2, (frozen_past c0 (frozen_new rfl) h).2, (frozen_past c1 (frozen_new rfl) h).2⟩
theorem below_set {w3 w4 : World} (hc : Below w3.heap.size w3 w4) (x y : Value) : Below w3.heap.size w3 ((w4.setCell ⟨w3.heap.size, 0, none⟩ x).setCell ⟨w3.heap.size, 1, none⟩ y) := (hc.setCell (Nat.le_refl _) _).setCell (Nat.le_refl _) _
theorem quo_i64 {a b : Nat} (h : a ≤ 1000000) : IntKind.i64.wrap ((a : Int) / (b : Int)) = ((a / b : Nat) : Int) := by
  have h0 : (a : Int) / (b : Int) = ((a / b : Nat) : Int) := by simp
  have h1 : a / b ≤ a := Nat.div_le_self _ _
  rw [h0, IntKind.wrap_i64]
  generalize a / b = q at h1
  omega
theorem below_alloc {w W : World} (h : Below w.heap.size w W) (X : Obj) : Below w.heap.size w (W.alloc X) := h.alloc h.size X

/-- The new sum's box and its map. -/
structure SumBox (w3 wx : World) (Bs mb : Nat) (D : Int) : Prop where
  below : Below w3.heap.size w3 wx
  s0 : wx.cell? ⟨Bs, 0, none⟩ = some (.int .i64 D)
  s1 : wx.cell? ⟨Bs, 1, none⟩ = some (.map (some mb))
  own : wx.ownsMap Tryz.prog 3 (plainElem (H := Unit) Tryz.prog 3) mb 0 (mapOf [])
  hB : w3.heap.size ≤ Bs
  hm : w3.heap.size ≤ mb
theorem sumBox_late {w3 w4 : World} {D : Int} (ho : w4.ownsMap Tryz.prog 3 (plainElem (H := Unit) Tryz.prog 3) (w3.heap.size + 1) 0 (.map [])) (hc : Below w3.heap.size w3 w4) : SumBox w3 (w4.alloc (.cells #[.int .i64 D, .map (some (w3.heap.size + 1))] 120)) w4.heap.size (w3.heap.size + 1) D :=
  ⟨below_alloc hc _, by rw [World.cell?_alloc_at _ _ _ _ rfl]; rfl, by rw [World.cell?_alloc_at _ _ _ _ rfl]; rfl, ownsMap_later ho (Below.heap_alloc _ _ _ ho.lt), hc.size, by omega⟩
theorem sumBox_soon {w3 w4 : World} {D : Int} {u v : Value} (ho : w4.ownsMap Tryz.prog 3 (plainElem (H := Unit) Tryz.prog 3) (w3.heap.size + 1 + 1) 0 (.map [])) (hc : Below w3.heap.size w3 w4) (h0 : w4.cell? ⟨w3.heap.size, 0, none⟩ = some u) (h1 : w4.cell? ⟨w3.heap.size, 1, none⟩ = some v) :
    SumBox w3 ((w4.setCell ⟨w3.heap.size, 0, none⟩ (.int .i64 D)).setCell ⟨w3.heap.size, 1, none⟩ (.map (some (w3.heap.size + 1 + 1)))) w3.heap.size (w3.heap.size + 1 + 1) D := by
  refine ⟨below_set hc _ _, ?_, ?_, ownsMap_later ho ?_, Nat.le_refl _, by omega⟩
  · rw [World.cell?_setCell_other _ _ _ _ (by simp)]; exact World.cell?_setCell_same _ _ _ h0
  · exact World.cell?_setCell_same _ _ _ (by rw [World.cell?_setCell_other _ _ _ _ (by simp)]; exact h1)
  · rw [Below.heap_setCell _ _ _ _ (by show w3.heap.size + 1 + 1 ≠ w3.heap.size; omega), Below.heap_setCell _ _ _ _ (by show w3.heap.size + 1 + 1 ≠ w3.heap.size; omega)]
theorem grown_below {w3 W W' : World} {mb : Nat} (h : Below w3.heap.size w3 W) (hg : W.grownBy W' (some mb)) (hm : w3.heap.size ≤ mb) : Below w3.heap.size w3 W' :=
  h.grown hg h.size (fun k e => by cases e; exact hm)

end Go.Proofs.YtmdimdoglpiiiaaGreatDoor

/- (sum).told in general: a form, or ErrBound. -/
namespace Go.Proofs.YtmdimdoglpiiiaaGreatDoor
open Go.RowKit Go.Maps Go.Sort Go.Shelf

theorem all_next {cf : Int → Int} {G : Nat} {ks : List Int} {k : Nat} {p : Int} (ht : ks.take (k + 1) = ks.take k ++ [p]) (h : ∀ x ∈ ks.take k, (quo cf G x).natAbs ≤ 1099511627776) (hp : (quo cf G p).natAbs ≤ 1099511627776) : Hid (∀ x ∈ ks.take (k + 1), (quo cf G x).natAbs ≤ 1099511627776) := fun x hx => by
  rw [ht, List.mem_append] at hx
  rcases hx with hx | hx
  · exact h x hx
  · rw [List.mem_singleton] at hx; rw [hx]; exact hp

set_option maxRecDepth 100000 in
set_option maxHeartbeats 2000000 in
/-- told: a sum that has a form, or ErrBound. -/
theorem told_any (den : Int) (b nn : Nat) (D : DataW Unit) (cf : Int → Int) (ks : List Int) (w : World) (hown : w.ownsMap Tryz.prog 3 (plainElem Tryz.prog 3) b nn D)
    (hat : ∀ x, D.atKey (.int .i64 x) (.lit (.int .i64 0)) = .lit (.int .i64 (cf x))) (hks : ∀ ss : List Int, ss.Perm (intKeys D) → ss.mergeSort (fun x y => decide (x ≤ y)) = ks) (hsz : Maps.size D ≤ 100000) (hlen : ks.length ≤ 100000)
    (hwf : ∀ x ∈ ks, (Lit.int .i64 x).wf = true) (hd1 : 1 ≤ den) (hd2 : den ≤ 1000000000000) (hcf : ∀ x, -2305843009213693952 ≤ cf x ∧ cf x ≤ 2305843009213693952)
    (G : Nat) (hG : gcdL den cf ks ks.length = G) (a : Nat → Addr) (hE : Errs w a) (fit : Bool) (hfit : fit = true ↔ (den / (G : Int) ≤ 1000000 ∧ ∀ x ∈ ks, (quo cf G x).natAbs ≤ 1099511627776)) :
    Calls Tryz.prog 61 #[.agg #[.int .i64 den, .map (some b)]] w fun e w' => ((fit = true ∧ ∃ v, e = .returned (.tuple #[.agg #[.int .i64 (den / (G : Int)), v], .nilIface]) ∧ w'.ownsRow w.heap.size 90 2 v (countOf (quo cf G) ks) (termsOf (quo cf G) ks)) ∨ (fit = false ∧ e = .returned (.tuple #[.agg #[.int .i64 0, .slice none 0 0], .iface 202 (.pointer (some (a 1)))]))) ∧ Below w.heap.size w w' := by
  have hbl := hown.lt
  have HK : Hid (∀ ss : List Int, ss.Perm (intKeys D) → ss.mergeSort (fun x y => decide (x ≤ y)) = ks) := hks
  have HAT : Hid (∀ x, D.atKey (.int .i64 x) (.lit (.int .i64 0)) = .lit (.int .i64 (cf x))) := hat
  have HWF : Hid (∀ x ∈ ks, (Lit.int .i64 x).wf = true) := hwf
  have HCF : Hid (∀ x, -2305843009213693952 ≤ cf x ∧ cf x ≤ 2305843009213693952) := hcf
  have HG : Hid (gcdL den cf ks ks.length = G) := hG
  have HFIT := Hid.mk' hfit
  have HERR := Hid.mk' hE
  clear hks hat hwf hcf hG hfit hE
  have hb3 : Below w.heap.size w (((w.alloc (.cells #[.int .i64 den, .map (some b)] 120)).alloc (.cells #[.int .i64 0, .slice none 0 0] 51)).alloc (.cells #[.map (some b)] 118)) := (((Below.refl _ _).alloc (Nat.le_refl _) _).alloc (by simp) _).alloc (by simp; omega) _
  have hk := maps_keys (some b) ((w.alloc (.cells #[.int .i64 den, .map (some b)] 120)).alloc (.cells #[.int .i64 0, .slice none 0 0] 51))
  have hs := sorted_keys (w.heap.size + 1 + 1) b nn D _ (((w.alloc (.cells #[.int .i64 den, .map (some b)] 120)).alloc (.cells #[.int .i64 0, .slice none 0 0] 51)).alloc (.cells #[.map (some b)] 118)) (by rw [World.cell?_alloc_at _ _ _ _ (by simp)]; rfl) (by simp) (ownsMap_later hown (hb3.block b hbl)) (by unfold maxLen; omega) (by omega)
  go_enter Tryz.func61, Tryz.ntmps61
  go_wp2_with fail
  refine hk.mono ?_
  clear hk
  rintro e w1 ⟨rfl, rfl⟩
  go_wp2_with fail
  refine hs.mono ?_
  clear hs
  rintro e w2 ⟨v, ss, rfl, hperm, hrow, hnil, hb4⟩
  have hms := HK.out ss hperm
  rw [hms] at hrow
  have hsl : ss.length = ks.length := by rw [← hms]; simp
  rw [hsl] at hrow
  rcases hrow.2 with ⟨rfl, hz⟩ | ⟨g, cap, cur, rfl, hbase, hgb, r1, r2, r3, r4⟩
  · obtain rfl : ks = [] := List.eq_nil_of_length_eq_zero hz
    have hs4 := hb4.size
    simp at hs4
    have hbA := hb3.trans (hb4.mono (show w.heap.size ≤ _ by simp; omega))
    have x0 : w2.cell? ⟨w.heap.size, 0, none⟩ = some (.int .i64 den) := by
      rw [hb4.cell (p := ⟨w.heap.size, 0, none⟩) (by simp; omega), World.cell?_alloc_lt _ _ ⟨w.heap.size, 0, none⟩ (by simp; omega), World.cell?_alloc_lt _ _ ⟨w.heap.size, 0, none⟩ (by simp), World.cell?_alloc_at _ _ _ _ rfl]; rfl
    have z0 : w2.cell? ⟨w.heap.size + 1, 0, none⟩ = some (.int .i64 0) := by
      rw [hb4.cell (p := ⟨w.heap.size + 1, 0, none⟩) (by simp), World.cell?_alloc_lt _ _ ⟨w.heap.size + 1, 0, none⟩ (by simp), World.cell?_alloc_at _ _ _ _ (by simp)]; rfl
    have z1 : w2.cell? ⟨w.heap.size + 1, 1, none⟩ = some (.slice none 0 0) := by
      rw [hb4.cell (p := ⟨w.heap.size + 1, 1, none⟩) (by simp), World.cell?_alloc_lt _ _ ⟨w.heap.size + 1, 1, none⟩ (by simp), World.cell?_alloc_at _ _ _ _ (by simp)]; rfl
    have f0 : w2.frozen? ⟨w.heap.size + 1, 0, none⟩ = false := by
      rw [hb4.frozen (p := ⟨w.heap.size + 1, 0, none⟩) (by simp), World.frozen?_alloc_old _ _ ⟨w.heap.size + 1, 0, none⟩ (by simp)]; exact frozen_new (by simp)
    have f1 : w2.frozen? ⟨w.heap.size + 1, 1, none⟩ = false := by
      rw [hb4.frozen (p := ⟨w.heap.size + 1, 1, none⟩) (by simp), World.frozen?_alloc_old _ _ ⟨w.heap.size + 1, 1, none⟩ (by simp)]; exact frozen_new (by simp)
    obtain rfl : den.natAbs = G := HG.out
    have hG1 : (den.natAbs : Int) = den := by omega
    have hdd : den / den = 1 := Int.ediv_self (by omega)
    have HDD : Hid (den / (den.natAbs : Int) = 1) := by show _ = _; rw [hG1, hdd]
    have HBA : Hid (Below w.heap.size w w2) := hbA
    have hft : fit = true := HFIT.out.2 ⟨by rw [hG1, hdd]; omega, fun x hx => by cases hx⟩
    have HFT := Hid.mk' hft
    clear hrow hnil hb4 hb3 hbA HG hG1 hft
    have y0 : ∀ X, (w2.alloc X).cell? ⟨w.heap.size + 1, 0, none⟩ = some (.int .i64 0) := fun X => by rw [World.cell?_alloc_lt _ _ ⟨w.heap.size + 1, 0, none⟩ (by show w.heap.size + 1 < _; omega)]; exact z0
    have y1 : ∀ X, (w2.alloc X).cell? ⟨w.heap.size + 1, 1, none⟩ = some (.slice none 0 0) := fun X => by rw [World.cell?_alloc_lt _ _ ⟨w.heap.size + 1, 1, none⟩ (by show w.heap.size + 1 < _; omega)]; exact z1
    have g0 : ∀ X, (w2.alloc X).frozen? ⟨w.heap.size + 1, 0, none⟩ = false := fun X => by rw [World.frozen?_alloc_old _ _ ⟨w.heap.size + 1, 0, none⟩ (by show w.heap.size + 1 ≠ _; omega)]; exact f0
    have g1 : ∀ X, (w2.alloc X).frozen? ⟨w.heap.size + 1, 1, none⟩ = false := fun X => by rw [World.frozen?_alloc_old _ _ ⟨w.heap.size + 1, 1, none⟩ (by show w.heap.size + 1 ≠ _; omega)]; exact f1
    go_wp2_with fail
    refine wp_loop_rounds 1 ?_
    rw [rounds_succ]
    go_wp2_with fail
    refine wp_loop_rounds 1 ?_
    rw [rounds_succ]
    go_wp2_with fail
    refine bodyPost_ret (v := .tuple #[.agg #[.int .i64 1, .slice none 0 0], .nilIface]) (by simp [results, Tryz.results61, go_sem, y0, y1]) rfl ⟨Or.inl ⟨HFT.out, .slice none 0 0, by rw [HDD.out], ⟨rfl, Or.inl ⟨rfl, rfl⟩⟩⟩, ?_⟩
    exact ((HBA.out.alloc HBA.out.size _).setCell (by simp) _).setCell (by simp) _
  · have hI : InTold w w2 den b nn D g ks := by
      have hs4 := hb4.size
      simp at hs4
      refine ⟨?_, ?_, ?_, ?_, ?_, ?_, ?_, hb3.trans (hb4.mono (by simp; omega)), by omega, ?_⟩
      · rw [hb4.cell (p := ⟨w.heap.size, 0, none⟩) (by simp; omega), World.cell?_alloc_lt _ _ ⟨w.heap.size, 0, none⟩ (by simp; omega), World.cell?_alloc_lt _ _ ⟨w.heap.size, 0, none⟩ (by simp), World.cell?_alloc_at _ _ _ _ rfl]; rfl
      · rw [hb4.cell (p := ⟨w.heap.size, 1, none⟩) (by simp; omega), World.cell?_alloc_lt _ _ ⟨w.heap.size, 1, none⟩ (by simp; omega), World.cell?_alloc_lt _ _ ⟨w.heap.size, 1, none⟩ (by simp), World.cell?_alloc_at _ _ _ _ rfl]; rfl
      · rw [hb4.cell (p := ⟨w.heap.size + 1, 0, none⟩) (by simp), World.cell?_alloc_lt _ _ ⟨w.heap.size + 1, 0, none⟩ (by simp), World.cell?_alloc_at _ _ _ _ (by simp)]; rfl
      · rw [hb4.cell (p := ⟨w.heap.size + 1, 1, none⟩) (by simp), World.cell?_alloc_lt _ _ ⟨w.heap.size + 1, 1, none⟩ (by simp), World.cell?_alloc_at _ _ _ _ (by simp)]; rfl
      · rw [hb4.frozen (p := ⟨w.heap.size + 1, 0, none⟩) (by simp), World.frozen?_alloc_old _ _ ⟨w.heap.size + 1, 0, none⟩ (by simp)]; exact frozen_new (by simp)
      · rw [hb4.frozen (p := ⟨w.heap.size + 1, 1, none⟩) (by simp), World.frozen?_alloc_old _ _ ⟨w.heap.size + 1, 1, none⟩ (by simp)]; exact frozen_new (by simp)
      · exact ownsMap_later hown ((hb4.block b (by simp; omega)).trans (hb3.block b hbl))
      · intro i hi
        have : w2.cell? ⟨g, i, none⟩ = cur[i]? := by simp [World.cell?, hgb]
        have h5 : cur.toList[i]? = (ks.map encZ)[i]? := by rw [← r4, List.getElem?_take_of_lt (by omega)]
        rw [this, ← Array.getElem?_toList, h5]
        simp [encZ, hi]
    have HI : Hid (InTold w w2 den b nn D g ks) := hI
    clear hI hrow hnil hgb r4 r3 hb4 hb3
    have x0 := HI.out.box0
    go_wp2_with fail
    clear x0
    go_loopw [5, 20] (fun t i wr => ∃ k : Nat, k ≤ ks.length ∧ t = .int .i64 (gcdL den cf ks k) ∧ i = .int .i64 k ∧ Hid (InTold w wr den b nn D g ks)) (fun _ i _ => ks.length - (intOf i).toNat)
    case atStart => exact ⟨0, Nat.zero_le _, by show _ = Value.int IntKind.i64 ((den.natAbs : Nat) : Int); congr 1; omega, rfl, HI⟩
    case round =>
      clear HI
      obtain ⟨k, hk, rfl, rfl, HI⟩ := hrel
      have hgp := gcdTo_pos den (fun i => cf (ks.getD i 0)) hd1 k
      have HGP : Hid (1 ≤ gcdL den cf ks k ∧ gcdL den cf ks k ≤ den.natAbs) := hgp
      clear hgp
      have hg1 : 1 ≤ gcdL den cf ks k := HGP.out.1
      have hg2 : (gcdL den cf ks k : Int) ≤ 1000000000000 := by have := HGP.out.2; omega
      have x0 := HI.out.box0
      have x1 := HI.out.box1
      by_cases hlt : k < ks.length
      · have hck := HI.out.keys k hlt
        have hc1 := (HCF.out (ks.getD k 0)).1
        have hc2 := (HCF.out (ks.getD k 0)).2
        have hmem : ks.getD k 0 ∈ ks := by
          rw [List.getD_eq_getElem?_getD, List.getElem?_eq_getElem hlt]; exact List.getElem_mem hlt
        have hkey : keyOf Tryz.prog 3 (.int .i64 (ks.getD k 0)) = some (.int .i64 (ks.getD k 0)) := keyOf_int_mk Tryz.underlying3 (HWF.out _ hmem)
        have HKEY : Hid (keyOf Tryz.prog 3 (.int .i64 (ks.getD k 0)) = some (.int .i64 (ks.getD k 0))) := hkey
        obtain ⟨p, hp⟩ : ∃ p, p = ks.getD k 0 := ⟨_, rfl⟩
        have HP : Hid (p = ks.getD k 0) := hp
        rw [← hp] at hck hc1 hc2 HKEY
        clear hkey hmem hp
        go_wp2_with (first
          | (at_lookup; go_must (refine wpList_lookup_own_int _ rfl _ _ 118 rfl 3 3 .i64 Tryz.lawInt Tryz.underlying118 Tryz.underlying3 (Tryz.zeroInt _) b nn D rfl HI.out.own _ _ rfl HKEY.out ?_; intro c hat hwc; have hcc := coef_of HAT.out hat; clear hat hwc; subst hcc))
          | (go_at_call 81; refine (GCD_any _ _ _ (by omega) (by omega) (by omega) (by omega)).mono ?_; rintro e w' ⟨rfl, mm, rfl⟩))
        exact ⟨⟨k + 1, by omega, by show _ = Value.int IntKind.i64 ((Int.gcd (gcdL den cf ks k : Int) (cf (ks.getD k 0)) : Nat) : Int); rw [← HP.out], by go_num, HI.out.drewN mm⟩, by simp [intOf]; omega⟩
      · obtain rfl : k = ks.length := by omega
        have HG' := HG.out
        rw [HG'] at hg1 hg2 HGP ⊢
        clear HG'
        obtain ⟨i0, hi, hz0, hz1, hz2⟩ := info_parts Tryz.infoTerm
        have HINF : Hid (Tryz.prog.info? 90 = some i0 ∧ i0.zero = some (.agg #[.int .i64 0, .int .i64 0]) ∧ i0.size = 2 ∧ i0.bytes = 16) := ⟨hi, hz0, hz1, hz2⟩
        clear hi hz0 hz1 hz2
        have HS0 : Hid (InOut wr (wr.alloc (.cells #[.int .i64 (den / (G : Int)), .slice none 0 0] 51)) (den / (G : Int)) (.slice none 0 0) 0 []) := InOut.start wr _
        have hdq0 : 0 ≤ den / (G : Int) := Int.ediv_nonneg (by omega) (by omega)
        have HIN : Hid (InTold w wr den b nn D g ks) := HI.out
        clear HI
        by_cases hdq : den / (G : Int) ≤ 1000000
        case neg =>
          have hff : fit = false := not_true_of HFIT.out (fun h => hdq h.1)
          have hdq2 : den / (G : Int) ≤ 1000000000000 := Int.le_trans (Int.ediv_le_self _ (by omega)) hd2
          have hdq3 : 1000000 < den / (G : Int) := by omega
          have hbg := HIN.out.big
          have y0 : ∀ X, (wr.alloc X).cell? ⟨w.heap.size + 1, 0, none⟩ = some (.int .i64 0) := fun X => by rw [World.cell?_alloc_lt _ _ ⟨w.heap.size + 1, 0, none⟩ (cell_lt HIN.out.res0)]; exact HIN.out.res0
          have y1 : ∀ X, (wr.alloc X).cell? ⟨w.heap.size + 1, 1, none⟩ = some (.slice none 0 0) := fun X => by rw [World.cell?_alloc_lt _ _ ⟨w.heap.size + 1, 1, none⟩ (cell_lt HIN.out.res1)]; exact HIN.out.res1
          have g0 : ∀ X, (wr.alloc X).frozen? ⟨w.heap.size + 1, 0, none⟩ = false := fun X => by rw [World.frozen?_alloc_old _ _ ⟨w.heap.size + 1, 0, none⟩ (Nat.ne_of_lt (cell_lt HIN.out.res0))]; exact HIN.out.fr0
          have g1 : ∀ X, (wr.alloc X).frozen? ⟨w.heap.size + 1, 1, none⟩ = false := fun X => by rw [World.frozen?_alloc_old _ _ ⟨w.heap.size + 1, 1, none⟩ (Nat.ne_of_lt (cell_lt HIN.out.res1))]; exact HIN.out.fr1
          have ye : ∀ X, (wr.alloc X).cell? ⟨0, 0, none⟩ = some (.iface 202 (.pointer (some (a 1)))) := fun X => (HERR.out.below (HIN.out.below.alloc HIN.out.below.size X)).c1
          have ys : ∀ X, ((wr.alloc X).setCell ⟨w.heap.size + 1, 0, none⟩ (.int .i64 0)).cell? ⟨0, 0, none⟩ = some (.iface 202 (.pointer (some (a 1)))) := fun X => by rw [World.cell?_setCell_other _ _ _ _ (fun e => by have h : 0 < w.heap.size := cell_lt HERR.out.c1; have e' : w.heap.size + 1 = 0 := congrArg Addr.block e; omega)]; exact ye X
          clear hdq
          go_wp2_with fail
          go_region
          go_wp2_with fail
          refine bodyPost_ret (v := .tuple #[.agg #[.int .i64 0, .slice none 0 0], .iface 202 (.pointer (some (a 1)))]) (by simp [results, Tryz.results61, go_sem, y0, y1]) rfl ⟨Or.inr ⟨hff, rfl⟩, ?_⟩
          exact (((HIN.out.below.alloc HIN.out.below.size _).setCell (by simp) _).setCell (by simp) _).drew
        go_wp2_with fail
        clear x0 x1
        obtain ⟨w1, hw1⟩ : ∃ w1, w1 = wr := ⟨_, rfl⟩
        rw [← hw1] at HS0 HIN ⊢
        clear hw1
        go_loopw [43] (fun i wr => ∃ (k : Nat) (sv : Value), k ≤ ks.length ∧ i = .int .i64 k ∧ Hid (∀ x ∈ ks.take k, (quo cf G x).natAbs ≤ 1099511627776) ∧ Hid (InOut w1 wr (den / (G : Int)) sv (countOf (quo cf G) (ks.take k)) (termsOf (quo cf G) (ks.take k)))) (fun i _ => ks.length - (intOf i).toNat)
        case atStart => exact ⟨0, .slice none 0 0, Nat.zero_le _, rfl, (fun x hx => by simp at hx), HS0.out⟩
        case round =>
          clear HS0
          obtain ⟨k, sv, hk, rfl, HAL, HO⟩ := hrel
          have HI : Hid (InTold w wr den b nn D g ks) := HIN.out.later HO.out.keep
          have x0 := HI.out.box0
          have x1 := HI.out.box1
          have y0 := HO.out.o0
          have y1 := HO.out.o1
          have yf := HO.out.fz
          by_cases hlt : k < ks.length
          · have hck := HI.out.keys k hlt
            have hmem : ks.getD k 0 ∈ ks := by
              rw [List.getD_eq_getElem?_getD, List.getElem?_eq_getElem hlt]; exact List.getElem_mem hlt
            have HKEY : Hid (keyOf Tryz.prog 3 (.int .i64 (ks.getD k 0)) = some (.int .i64 (ks.getD k 0))) := keyOf_int_mk Tryz.underlying3 (HWF.out _ hmem)
            have hc1 := (HCF.out (ks.getD k 0)).1
            have hc2 := (HCF.out (ks.getD k 0)).2
            obtain ⟨p, hp⟩ : ∃ p, p = ks.getD k 0 := ⟨_, rfl⟩
            have HP : Hid (p = ks.getD k 0) := hp
            rw [← hp] at hck HKEY hc1 hc2
            have HMEM : Hid (p ∈ ks) := by rw [← hp] at hmem; exact hmem
            clear hmem hp
            obtain ⟨q, hqq⟩ : ∃ q, q = quo cf G p := ⟨_, rfl⟩
            have HQQ : Hid (q = quo cf G p) := hqq
            have hqe : (cf p).tdiv (G : Int) = q := hqq.symm
            clear hqq
            have htake : Hid (ks.take (k + 1) = ks.take k ++ [p]) := by
              show _ = _
              rw [List.take_succ_eq_append_getElem hlt, HP.out, List.getD_eq_getElem?_getD, List.getElem?_eq_getElem hlt]
              rfl
            by_cases hqb : q.natAbs ≤ 1099511627776
            case neg =>
              have hff : fit = false := not_true_of HFIT.out (fun h => hqb (by have := h.2 p HMEM.out; rwa [← HQQ.out] at this))
              have hqs : q.natAbs ≤ (cf p).natAbs := by rw [← hqe]; exact Int.natAbs_tdiv_le_natAbs _ _
              have hqB : (1099511627776 : Int) < (q.natAbs : Int) := by omega
              have z0 := HI.out.res0
              have z1 := HI.out.res1
              have f0 := HI.out.fr0
              have f1 := HI.out.fr1
              have ye := (HERR.out.below HI.out.below).c1
              have ys : (wr.setCell ⟨w.heap.size + 1, 0, none⟩ (.int .i64 0)).cell? ⟨0, 0, none⟩ = some (.iface 202 (.pointer (some (a 1)))) := by rw [World.cell?_setCell_other _ _ _ _ (fun e => by have h : 0 < w.heap.size := cell_lt HERR.out.c1; have e' : w.heap.size + 1 = 0 := congrArg Addr.block e; omega)]; exact ye
              clear hqb
              go_wp2_with (first
                | (at_lookup; go_must (refine wpList_lookup_own_int _ rfl _ _ 118 rfl 3 3 .i64 Tryz.lawInt Tryz.underlying118 Tryz.underlying3 (Tryz.zeroInt _) b nn D rfl HI.out.own _ _ rfl HKEY.out ?_; intro c hat hwc; have hcc := coef_of HAT.out hat; clear hat hwc; subst hcc))
                | (go_at_call 55; refine (size_any _ _ (by omega) (by omega)).mono ?_; rintro e w' ⟨rfl, hw'⟩; rw [hw']; clear hw'))
              go_region
              go_wp2_with fail
              refine bodyPost_ret (v := .tuple #[.agg #[.int .i64 0, .slice none 0 0], .iface 202 (.pointer (some (a 1)))]) (by simp [results, Tryz.results61, go_sem, z0, z1]) rfl ⟨Or.inr ⟨hff, rfl⟩, ?_⟩
              exact ((HI.out.below.setCell (by simp) _).setCell (by simp) _).drew
            by_cases hq0 : q = 0
            · subst hq0
              go_wp2_with (first
                | (at_lookup; go_must (refine wpList_lookup_own_int _ rfl _ _ 118 rfl 3 3 .i64 Tryz.lawInt Tryz.underlying118 Tryz.underlying3 (Tryz.zeroInt _) b nn D rfl HI.out.own _ _ rfl HKEY.out ?_; intro c hat hwc; have hcc := coef_of HAT.out hat; clear hat hwc; subst hcc))
                | (go_at_call 55; refine (size_any _ _ (by omega) (by omega)).mono ?_; rintro e w' ⟨rfl, hw'⟩; rw [hw']; clear hw'))
              exact ⟨⟨k + 1, sv, by omega, by go_num, all_next htake.out HAL.out (by rw [← HQQ.out]; omega), by
                show InOut _ _ _ _ _ _
                rw [htake.out, termsOf_append, countOf_append]
                have h0 : quo cf G p = 0 := HQQ.out.symm
                simpa [termsOf, countOf, h0] using HO.out⟩, by simp [intOf]; omega⟩
            · have hqn : (q != 0) = true := by simp [hq0]
              have HQ0 : Hid (¬ q = 0) := hq0
              clear hq0
              have hcn := countOf_le (quo cf G) (ks.take k)
              have hcn2 : countOf (quo cf G) (ks.take k) ≤ 100000 := by have := List.length_take_le k ks; omega
              have HSZ : Hid (w1.heap.size < wr.heap.size) := cell_lt HO.out.o0
              have hsz := HSZ.out
              go_wp2_with (first
                | (at_lookup; go_must (refine wpList_lookup_own_int _ rfl _ _ 118 rfl 3 3 .i64 Tryz.lawInt Tryz.underlying118 Tryz.underlying3 (Tryz.zeroInt _) b nn D rfl HI.out.own _ _ rfl HKEY.out ?_; intro c hat hwc; have hcc := coef_of HAT.out hat; clear hat hwc; subst hcc))
                | (go_at_call 55; refine (size_any _ _ (by omega) (by omega)).mono ?_; rintro e w' ⟨rfl, hw'⟩; rw [hw']; clear hw')
                | (at_builtin; go_must (refine wpList_append_lies _ rfl _ _ _ rfl (w1.heap.size + 1) 90 i0 _ 2 16 Tryz.underlying49 HINF.out.1 HINF.out.2.1 HINF.out.2.2.1 HINF.out.2.2.2 rfl (by omega) sv _ _ rfl (HO.out.row.alloc _) ⟨wr.heap.size, 0, none⟩ 1 1 [.int .i64 p, .int .i64 q] rfl rfl (two_new _ _ _ _) (by simp [Value.oneCell']) (by omega) (by unfold maxLen; omega) (by omega) (by simp; omega) _ rfl ?_; intro g' cap' w3 hown3 hgrow3 hat3 hlt3; obtain ⟨z1, z2, HP3⟩ := HO.out.pushed hgrow3 hown3; have HPU := Hid.mk' HP3; clear hown3 hgrow3 hat3 HP3)))
              exact ⟨⟨k + 1, _, by omega, by go_num, all_next htake.out HAL.out (by rw [← HQQ.out]; omega), by
                show InOut _ _ _ _ _ _
                rw [htake.out, termsOf_append, countOf_append]
                have h0 : quo cf G p = q := HQQ.out.symm
                have h1 : ¬ q = 0 := HQ0.out
                simpa [termsOf, countOf, h0, h1] using HPU.out⟩, by simp [intOf]; omega⟩
          · obtain rfl : k = ks.length := by omega
            have z0 := HI.out.res0
            have z1 := HI.out.res1
            have f0 := HI.out.fr0
            have f1 := HI.out.fr1
            have hlt1 : w.heap.size + 1 < w1.heap.size := by have := HIN.out.big; omega
            have hfull : ks.take ks.length = ks := List.take_length
            have HOO : Hid (InOut w1 wr (den / (G : Int)) sv (countOf (quo cf G) ks) (termsOf (quo cf G) ks)) := by have := HO.out; rwa [hfull] at this
            have HFT : Hid (fit = true) := HFIT.out.2 ⟨hdq, by have := HAL.out; rwa [hfull] at this⟩
            clear hfull HO
            obtain ⟨ad, n', c', rfl⟩ : ∃ ad n' c', sv = .slice ad n' c' := by
              rcases HOO.out.row.2 with ⟨rfl, _⟩ | ⟨gg, cap', cur', rfl, _⟩
              · exact ⟨_, _, _, rfl⟩
              · exact ⟨_, _, _, rfl⟩
            go_wp2_with fail
            refine bodyPost_ret (v := .tuple #[.agg #[.int .i64 (den / (G : Int)), .slice ad n' c'], .nilIface]) (by simp [results, Tryz.results61, go_sem, z0, z1]) rfl ⟨Or.inl ⟨HFT.out, .slice ad n' c', rfl, ?_⟩, ?_⟩
            · have h1 := ownsRow_setCell_below HOO.out.row (a := ⟨w.heap.size + 1, 0, none⟩) (by show w.heap.size + 1 < _; omega) (.int .i64 (den / (G : Int)))
              have h2 := ownsRow_setCell_below h1 (a := ⟨w.heap.size + 1, 1, none⟩) (by show w.heap.size + 1 < _; omega) (.slice ad n' c')
              exact row_base h2 (by omega)
            · exact (HI.out.below.setCell (by simp) _).setCell (by simp) _
end Go.Proofs.YtmdimdoglpiiiaaGreatDoor

/- logs.Add in general: ErrShape, ErrBound, or the sum in form. -/
namespace Go.Proofs.YtmdimdoglpiiiaaGreatDoor
open Go.RowKit Go.Maps

theorem some_bool (P : Prop) : ∃ b : Bool, b = true ↔ P := by
  by_cases h : P
  · exact ⟨true, ⟨fun _ => h, fun _ => rfl⟩⟩
  · exact ⟨false, ⟨(fun e => by cases e), (fun e => absurd e h)⟩⟩
/-- Has a sum a form? -/
def Fits (den : Int) (G : Nat) (l : List (Int × Int)) : Prop := den / (G : Int) ≤ 1000000 ∧ ∀ e ∈ l, (e.2.tdiv (G : Int)).natAbs ≤ 1099511627776
/-- told by lists, in general. -/
theorem told_list_any (den : Int) (b nn : Nat) (l : List (Int × Int)) (w : World) (hown : w.ownsMap Tryz.prog 3 (plainElem (H := Unit) Tryz.prog 3) b nn (mapOf l)) (hr : Rising l) (hk : ∀ e ∈ l, 2 ≤ e.1 ∧ e.1 ≤ 1000000) (hlen : l.length ≤ 100000)
    (hb : ∀ x, -2305843009213693952 ≤ atL l x ∧ atL l x ≤ 2305843009213693952) (hd1 : 1 ≤ den) (hd2 : den ≤ 1000000000000) (G : Nat) (hG : gcdL den (atL l) (l.map Prod.fst) l.length = G) (a : Nat → Addr) (hE : Errs w a) (fit : Bool) (hfit : fit = true ↔ Fits den G l) :
    Calls Tryz.prog 61 #[.agg #[.int .i64 den, .map (some b)]] w fun e w' => ((fit = true ∧ ∃ v, e = .returned (.tuple #[.agg #[.int .i64 (den / (G : Int)), v], .nilIface]) ∧ w'.ownsRow w.heap.size 90 2 v (overL G l).length (termCells (pOf (overL G l)) (cOf (overL G l)) (overL G l).length)) ∨ (fit = false ∧ e = .returned (.tuple #[.agg #[.int .i64 0, .slice none 0 0], .iface 202 (.pointer (some (a 1)))]))) ∧ Below w.heap.size w w' := by
  have hcf : ∀ e ∈ l, atL l e.1 = e.2 := fun e he => atL_mem hr he
  have ht := terms_flat (atL l) G l hcf
  have hfit' : fit = true ↔ (den / (G : Int) ≤ 1000000 ∧ ∀ x ∈ l.map Prod.fst, (quo (atL l) G x).natAbs ≤ 1099511627776) := hfit.trans ⟨fun h => ⟨h.1, fun x hx => by obtain ⟨e, he, rfl⟩ := List.mem_map.1 hx; unfold quo; rw [hcf e he]; exact h.2 e he⟩, fun h => ⟨h.1, fun e he => by have := h.2 e.1 (List.mem_map.2 ⟨e, he, rfl⟩); unfold quo at this; rw [hcf e he] at this; exact this⟩⟩
  have := told_any den b nn (mapOf l) (atL l) (l.map Prod.fst) w hown (at_map l) (sort_keys hr) (by rw [size_map]; exact hlen) (by rw [List.length_map]; exact hlen)
    (fun x hx => by obtain ⟨e, he, rfl⟩ := List.mem_map.1 hx; have := hk e he; exact wf_int (by omega)) hd1 hd2 hb G (by rw [List.length_map]; exact hG) a hE fit hfit'
  rw [ht.1, ht.2, flat_cells] at this
  exact this

/-- Two boxes and a result. -/
theorem three_cells (w : World) (x0 x1 y0 y1 r0 r1 : Value) (t : TypeId) :
    ((((w.alloc (.cells #[x0, x1] t)).alloc (.cells #[y0, y1] t)).alloc (.cells #[r0, r1] t)).cell? ⟨w.heap.size, 0, none⟩ = some x0 ∧ (((w.alloc (.cells #[x0, x1] t)).alloc (.cells #[y0, y1] t)).alloc (.cells #[r0, r1] t)).cell? ⟨w.heap.size, 1, none⟩ = some x1) ∧ ((((w.alloc (.cells #[x0, x1] t)).alloc (.cells #[y0, y1] t)).alloc (.cells #[r0, r1] t)).cell? ⟨w.heap.size + 1, 0, none⟩ = some y0 ∧ (((w.alloc (.cells #[x0, x1] t)).alloc (.cells #[y0, y1] t)).alloc (.cells #[r0, r1] t)).cell? ⟨w.heap.size + 1, 1, none⟩ = some y1) ∧ ((((w.alloc (.cells #[x0, x1] t)).alloc (.cells #[y0, y1] t)).alloc (.cells #[r0, r1] t)).cell? ⟨w.heap.size + 1 + 1, 0, none⟩ = some r0 ∧ (((w.alloc (.cells #[x0, x1] t)).alloc (.cells #[y0, y1] t)).alloc (.cells #[r0, r1] t)).cell? ⟨w.heap.size + 1 + 1, 1, none⟩ = some r1) ∧ (((w.alloc (.cells #[x0, x1] t)).alloc (.cells #[y0, y1] t)).alloc (.cells #[r0, r1] t)).frozen? ⟨w.heap.size + 1 + 1, 0, none⟩ = false ∧ (((w.alloc (.cells #[x0, x1] t)).alloc (.cells #[y0, y1] t)).alloc (.cells #[r0, r1] t)).frozen? ⟨w.heap.size + 1 + 1, 1, none⟩ = false := by
  refine ⟨⟨?_, ?_⟩, ⟨?_, ?_⟩, ⟨?_, ?_⟩, frozen_new (by simp), frozen_new (by simp)⟩
  · rw [World.cell?_alloc_lt _ _ ⟨w.heap.size, 0, none⟩ (by simp; omega), World.cell?_alloc_lt _ _ ⟨w.heap.size, 0, none⟩ (by simp), World.cell?_alloc_at _ _ _ _ rfl]; rfl
  · rw [World.cell?_alloc_lt _ _ ⟨w.heap.size, 1, none⟩ (by simp; omega), World.cell?_alloc_lt _ _ ⟨w.heap.size, 1, none⟩ (by simp), World.cell?_alloc_at _ _ _ _ rfl]; rfl
  · rw [World.cell?_alloc_lt _ _ ⟨w.heap.size + 1, 0, none⟩ (by simp), World.cell?_alloc_at _ _ _ _ (by simp)]; rfl
  · rw [World.cell?_alloc_lt _ _ ⟨w.heap.size + 1, 1, none⟩ (by simp), World.cell?_alloc_at _ _ _ _ (by simp)]; rfl
  · rw [World.cell?_alloc_at _ _ _ _ (by simp)]; rfl
  · rw [World.cell?_alloc_at _ _ _ _ (by simp)]; rfl

end Go.Proofs.YtmdimdoglpiiiaaGreatDoor

/- Two lists that tell the same; the document's sum of two in form. -/
namespace Go.Proofs.YtmdimdoglpiiiaaGreatDoor
open Go.RowKit

def nzL (l : List (Int × Int)) : List (Int × Int) := l.filter fun e => !decide (e.2 = 0)
theorem nz_rise {l : List (Int × Int)} (h : Rising l) : Rising (nzL l) := List.Pairwise.filter _ h
theorem nz_nz {l : List (Int × Int)} : ∀ e ∈ nzL l, e.2 ≠ 0 := fun e he => by
  have := (List.mem_filter.1 he).2
  simpa using this
theorem nz_at {l : List (Int × Int)} (h : Rising l) (x : Int) : atL (nzL l) x = atL l x := by
  by_cases h0 : atL l x = 0
  · rw [h0]
    by_cases h1 : atL (nzL l) x = 0
    · exact h1
    · have h2 := (List.mem_filter.1 (atL_some h1)).1
      have h3 := atL_mem h h2
      simp only at h3
      exact h3.symm.trans h0
  · exact atL_mem (nz_rise h) (List.mem_filter.2 ⟨atL_some h0, by simpa using h0⟩)
theorem nz_same {l l' : List (Int × Int)} (h : Rising l) (h' : Rising l') (he : ∀ x, atL l x = atL l' x) : nzL l = nzL l' := rising_ext (nz_rise h) (nz_rise h') nz_nz nz_nz (fun x => by rw [nz_at h, nz_at h', he])
theorem nz_snd (l : List (Int × Int)) : (nzL l).map Prod.snd = (l.map Prod.snd).filter fun x => !decide (x = 0) := by
  unfold nzL
  rw [List.filter_map]
  rfl
theorem gList_same {l l' : List (Int × Int)} (h : Rising l) (h' : Rising l') (he : ∀ x, atL l x = atL l' x) (g : Nat) : gList g (l.map Prod.snd) = gList g (l'.map Prod.snd) := by
  rw [← gList_zeros, ← gList_zeros (l'.map Prod.snd), ← nz_snd, ← nz_snd, nz_same h h' he]
theorem over_same {l l' : List (Int × Int)} (h : Rising l) (h' : Rising l') (he : ∀ x, atL l x = atL l' x) (G : Nat) : overL G l = overL G l' := rising_ext (rising_over h G) (rising_over h' G) (fun e he => over_nz he) (fun e he => over_nz he) (fun x => by rw [atL_over h, atL_over h', he])
theorem fits_same {l l' : List (Int × Int)} (h' : Rising l') (he : ∀ x, atL l x = atL l' x) {M G : Nat} (hf : FitsL M G l) : FitsL M G l' := by
  refine ⟨hf.1, fun e hm => ?_⟩
  by_cases h0 : e.2 = 0
  · rw [h0]; simp
  · have h1 := atL_mem h' hm
    have h2 := he e.1
    rw [h1] at h2
    have h3 := hf.2 _ (atL_some (l := l) (x := e.1) (by rw [h2]; exact h0))
    simpa [h2] using h3
theorem gcdL_list {D : Nat} {l : List (Int × Int)} (hr : Rising l) : gcdL (D : Int) (atL l) (l.map Prod.fst) l.length = gList D (l.map Prod.snd) := by
  have h0 : gcdL (D : Int) (atL l) (l.map Prod.fst) l.length = gcdTo (D : Int) (cOf l) l.length := by
    have aux : ∀ k, k ≤ l.length → gcdTo (D : Int) (fun i => atL l ((l.map Prod.fst).getD i 0)) k = gcdTo (D : Int) (cOf l) k := by
      intro k
      induction k with
      | zero => intro _; rfl
      | succ k ih =>
        intro hk
        show Int.gcd (gcdTo (D : Int) (fun i => atL l ((l.map Prod.fst).getD i 0)) k : Int) (atL l ((l.map Prod.fst).getD k 0)) = Int.gcd (gcdTo (D : Int) (cOf l) k : Int) (cOf l k)
        rw [ih (by omega)]
        have : atL l ((l.map Prod.fst).getD k 0) = cOf l k := by rw [getD_fst (by omega)]; exact atL_mem hr (getD_mem (by omega))
        rw [this]
    exact aux _ (Nat.le_refl _)
  rw [h0, gcdTo_list _ _ _ (Nat.le_refl _), List.take_length, Int.natAbs_natCast]
theorem sumAt_list {t : List (Int × Int)} (hr : Rising t) (x : Int) : ∀ k, k ≤ t.length → sumAt (pOf t) (cOf t) x k = atL (t.take k) x
  | 0, _ => by simp [sumAt, atL]
  | k + 1, h => by
    rw [atL_take hr (by omega)]
    show sumAt _ _ _ k + _ = _
    rw [sumAt_list hr x k (by omega)]
    by_cases hx : x = pOf t k
    · rw [if_pos hx, if_pos hx.symm]
    · rw [if_neg hx, if_neg (Ne.symm hx)]
theorem sumAt_all {t : List (Int × Int)} (hr : Rising t) (x : Int) : sumAt (pOf t) (cOf t) x t.length = atL t x := by rw [sumAt_list hr x _ (Nat.le_refl _), List.take_length]
theorem sumAt_le {p c : Nat → Int} {n : Nat} (h : ∀ i, i < n → 0 ≤ p i ∧ -1099511627776 ≤ c i ∧ c i ≤ 1099511627776) (x : Int) : ∀ k, k ≤ n → (sumAt p c x k).natAbs ≤ k * 1099511627776
  | 0, _ => by simp [sumAt]
  | k + 1, hk => by
    have ih := sumAt_le h x k (by omega)
    have h1 := h k (by omega)
    show (sumAt p c x k + if x = p k then c k else 0).natAbs ≤ _
    by_cases hx : x = p k
    · rw [if_pos hx]; omega
    · rw [if_neg hx]; omega
theorem mul_bound {F s : Int} {a b : Nat} (hF : F.natAbs ≤ a) (hs : s.natAbs ≤ b) : (F * s).natAbs ≤ a * b := by rw [Int.natAbs_mul]; exact Nat.mul_le_mul hF hs
theorem okLog_pc {d : Int} {n : Nat} {p c : Nat → Int} (h : OkLog d n p c) : ∀ i, i < n → 0 ≤ p i ∧ -1099511627776 ≤ c i ∧ c i ≤ 1099511627776 := fun i hi => by
  have h1 := (h.2.2.1 i hi).2
  exact ⟨by have := h1.2.2.2.2.1; omega, h1.2.2.1, h1.2.2.2.1⟩
theorem LogAt.listed' {w : World} {sv : Value} {n : Nat} {p c : Nat → Int} (h : LogAt w sv n p c) : ∃ t : List (Int × Int), n = t.length ∧ LogAt w sv t.length (pOf t) (cOf t) := by
  refine ⟨(List.range n).map fun i => (p i, c i), by simp, ?_⟩
  rcases h with ⟨ad, cap, h1, h2⟩ | ⟨b, o, cap, h1, h2, h3⟩
  · exact Or.inl ⟨ad, cap, h1, by simp [h2]⟩
  · refine Or.inr ⟨b, o, cap, by simpa using h1, by simpa using h2, fun i hi => ?_⟩
    have hi' : i < n := by simpa using hi
    have e1 : pOf ((List.range n).map fun i => (p i, c i)) i = p i := by simp [pOf, List.getD, hi']
    have e2 : cOf ((List.range n).map fun i => (p i, c i)) i = c i := by simp [cOf, List.getD, hi']
    rw [e1, e2]
    exact h3 i hi'

/-- The answer of a sum: in form and nil, or nothing and ErrBound. -/
def SaidOf (M : Nat) (l : List (Int × Int)) (a : Nat → Addr) (w : World) (dn : Int) (v er : Value) : Prop := (FitsL M (gList M (l.map Prod.snd)) l ∧ dn = ((M / gList M (l.map Prod.snd) : Nat) : Int) ∧ er = .nilIface ∧ ListAt w v (overL (gList M (l.map Prod.snd)) l)) ∨ (¬ FitsL M (gList M (l.map Prod.snd)) l ∧ dn = 0 ∧ v = .slice none 0 0 ∧ er = .iface 202 (.pointer (some (a 1))))
theorem ToldOf.same {M : Nat} {l l' : List (Int × Int)} (h : Rising l) (h' : Rising l') (he : ∀ x, atL l x = atL l' x) {w : World} {dn : Int} {v : Value} {code : Int} (ht : ToldOf M l w dn v code) : ToldOf M l' w dn v code := by
  have hg := gList_same h h' he M
  have ho := over_same h h' he (gList M (l'.map Prod.snd))
  rcases ht with ⟨h1, h2, h3, h4⟩ | ⟨h1, h2, h3, h4⟩
  · rw [hg] at h1 h2 h4
    rw [ho] at h4
    exact Or.inl ⟨fits_same h' he h1, h2, h3, h4⟩
  · rw [hg] at h1
    exact Or.inr ⟨fun hf => h1 (fits_same h (fun x => (he x).symm) hf), h2, h3, h4⟩
theorem ToldOf.later {M : Nat} {l : List (Int × Int)} {w w' : World} {dn : Int} {v : Value} {code : Int} (ht : ToldOf M l w dn v code) (hb : Below w.heap.size w w') : ToldOf M l w' dn v code := by
  rcases ht with ⟨h1, h2, h3, h4⟩ | h
  · exact Or.inl ⟨h1, h2, h3, OwnAt.later h4 hb⟩
  · exact Or.inr h
theorem SaidOf.later {M : Nat} {l : List (Int × Int)} {a : Nat → Addr} {w w' : World} {dn : Int} {v er : Value} (ht : SaidOf M l a w dn v er) (hb : Below w.heap.size w w') : SaidOf M l a w' dn v er := by
  rcases ht with ⟨h1, h2, h3, h4⟩ | h
  · exact Or.inl ⟨h1, h2, h3, OwnAt.later h4 hb⟩
  · exact Or.inr h

end Go.Proofs.YtmdimdoglpiiiaaGreatDoor

/- dist.sumOver: a sum of all that a function puts. -/
namespace Go.Proofs.YtmdimdoglpiiiaaGreatDoor
open Go.RowKit Go.Maps

/-- What is told of a sum that has a form: f over M. -/
def LogBy (base M : Nat) (f : Int → Int) (w : World) (dn : Int) (v : Value) : Prop := ∃ l : List (Int × Int), Rising l ∧ (∀ x, atL l x = f x) ∧ l.length ≤ 90000 ∧ dn = ((M / gList M (l.map Prod.snd) : Nat) : Int) ∧ w.ownsRow base 90 2 v (overL (gList M (l.map Prod.snd)) l).length (termCells (pOf (overL (gList M (l.map Prod.snd)) l)) (cOf (overL (gList M (l.map Prod.snd)) l)) (overL (gList M (l.map Prod.snd)) l).length)
theorem LogBy.form {base M : Nat} {f : Int → Int} {w : World} {dn : Int} {v : Value} (h : LogBy base M f w dn v) : ∃ ad n c, v = .slice ad n c := by
  obtain ⟨l, _, _, _, _, hr⟩ := h
  rcases hr.2 with ⟨rfl, _⟩ | ⟨gg, cap', cur', rfl, _⟩
  · exact ⟨_, _, _, rfl⟩
  · exact ⟨_, _, _, rfl⟩
theorem LogBy.later {base M : Nat} {f : Int → Int} {w w' : World} {dn : Int} {v : Value} (h : LogBy base M f w dn v) (hb : Below w.heap.size w w') : LogBy base M f w' dn v := by
  obtain ⟨l, h1, h2, h3, h5, hr⟩ := h
  exact ⟨l, h1, h2, h3, h5, ownsRow_past hr hb⟩
theorem LogBy.lower {base base' M : Nat} {f : Int → Int} {w : World} {dn : Int} {v : Value} (h : LogBy base M f w dn v) (hb : base' ≤ base) : LogBy base' M f w dn v := by
  obtain ⟨l, h1, h2, h3, h5, hr⟩ := h
  exact ⟨l, h1, h2, h3, h5, row_base hr hb⟩
theorem LogBy.set {base M : Nat} {f : Int → Int} {w : World} {dn : Int} {v : Value} (h : LogBy base M f w dn v) {B : Nat} (hB : B < base) (x y : Value) : LogBy base M f ((w.setCell ⟨B, 0, none⟩ x).setCell ⟨B, 1, none⟩ y) dn v := by
  obtain ⟨l, h1, h2, h3, h5, hr⟩ := h
  exact ⟨l, h1, h2, h3, h5, ownsRow_setCell_below (ownsRow_setCell_below hr (a := ⟨B, 0, none⟩) hB x) (a := ⟨B, 1, none⟩) hB y⟩
theorem LogBy.list {base M : Nat} {f : Int → Int} {w : World} {dn : Int} {v : Value} (h : LogBy base M f w dn v) : ∃ l : List (Int × Int), Rising l ∧ (∀ x, atL l x = f x) ∧ l.length ≤ 90000 ∧ dn = ((M / gList M (l.map Prod.snd) : Nat) : Int) ∧ ListAt w v (overL (gList M (l.map Prod.snd)) l) := by
  obtain ⟨l, h1, h2, h3, h5, hr⟩ := h
  exact ⟨l, h1, h2, h3, h5, ownAt_of_row hr⟩

set_option maxRecDepth 100000 in
set_option maxHeartbeats 2000000 in
theorem sumOver_any (K : Nat) (cap : Array Value) (M c : Nat) (f : Int → Int) (w : World) (hent : ∀ (args : Array Value) (w : World), (callFunc K args).run Tryz.prog w = .ok (.enter K args) w) (hM : 1 ≤ M) (hM6 : M ≤ 4096) (hc : c ≤ 4000) (hf : ∀ x, -1000000000 ≤ f x ∧ f x ≤ 1000000000)
    (hp : ∀ (W : World) (mb : Nat), Below w.heap.size w W → W.ownsMap Tryz.prog 3 (plainElem (H := Unit) Tryz.prog 3) mb 0 (mapOf []) → Calls Tryz.prog K (#[putV M mb] ++ cap) W fun e w' => e = .returned (.tuple #[]) ∧ ∃ l nn, Puts W w' mb f c [] 0 l nn) :
    Calls Tryz.prog 28 #[.int .i64 M, .func (.func K) #[] cap] w fun e w' => ∃ dn v, e = .returned (.tuple #[.agg #[.int .i64 dn, v], .nilIface]) ∧ LogBy w.heap.size M f w' dn v ∧ Below w.heap.size w w' := by
  obtain ⟨W0, hW0⟩ : ∃ W0, W0 = w.alloc (.cells #[.int .i64 0, .slice none 0 0] 51) := ⟨_, rfl⟩
  have hb0 : Below w.heap.size w W0 := by rw [hW0]; exact new_below _ _
  have hres : ∀ W, Below W0.heap.size W0 W → W.cell? ⟨w.heap.size, 0, none⟩ = some (.int .i64 0) ∧ W.cell? ⟨w.heap.size, 1, none⟩ = some (.slice none 0 0) ∧ W.frozen? ⟨w.heap.size, 0, none⟩ = false ∧ W.frozen? ⟨w.heap.size, 1, none⟩ = false := fun W hb => by
    rw [hW0] at hb
    obtain ⟨q0, q1, q2, q3⟩ := res_past hb
    exact ⟨q0, q1, q2, q3⟩
  have hsz : W0.heap.size = w.heap.size + 1 := by rw [hW0]; simp
  have hov := newSum_any (M : Int) W0
  have HP := Hid.mk' hp
  have HF := Hid.mk' hf
  have HB0 := Hid.mk' hb0
  have HRES := Hid.mk' hres
  have HW0 := Hid.mk' hW0
  have HSZ := Hid.mk' hsz
  clear hp hf hb0 hres hW0 hsz
  go_enter Tryz.func28, Tryz.ntmps28
  go_wp2_with fail
  rw [← HW0.out]
  refine hov.mono ?_
  clear hov
  rintro e w1 ⟨rfl, hown1, hb1⟩
  have HB1 := Hid.mk' hb1
  have ho1 : (w1.alloc (.cells #[.int .i64 M, .map (some (W0.heap.size + 1))] 120)).ownsMap Tryz.prog 3 (plainElem (H := Unit) Tryz.prog 3) (W0.heap.size + 1) 0 (mapOf []) := ownsMap_later hown1 (Below.heap_alloc _ _ _ hown1.lt)
  have HX1 : Hid (w1.cell? ⟨W0.heap.size + 1, 0, none⟩ = none) := map_no_cell hown1
  have hlt1 := hown1.lt
  obtain ⟨W1, hW1⟩ : ∃ W1, W1 = w1.alloc (.cells #[.int .i64 M, .map (some (W0.heap.size + 1))] 120) := ⟨_, rfl⟩
  have hs0 : W1.cell? ⟨w1.heap.size, 0, none⟩ = some (.int .i64 M) := by rw [hW1]; simp
  have hs1 : W1.cell? ⟨w1.heap.size, 1, none⟩ = some (.map (some (W0.heap.size + 1))) := by rw [hW1]; simp
  have HB2 : Hid (Below W0.heap.size W0 W1) := by rw [hW1]; exact below_chain hb1 (new_below _ _)
  rw [← hW1] at ho1
  have HO1 := Hid.mk' ho1
  have HS := Hid.mk' (And.intro hs0 hs1)
  have HW1 := Hid.mk' hW1
  have HLT := Hid.mk' hlt1
  clear hown1 hb1 ho1 hs0 hs1 hW1 hlt1
  go_upto_region 2 with fail
  rw [← HW1.out]
  obtain ⟨hs0, hs1⟩ := HS.out
  have hcall := HP.out W1 (W0.heap.size + 1) (below_chain HB0.out HB2.out) HO1.out
  unfold putV at hcall
  clear HP
  go_wp2_with fail
  refine hcall.mono ?_
  clear hcall hs0 hs1
  rintro e w2 ⟨rfl, l, nn, hpt⟩
  have hne : w1.heap.size ≠ W0.heap.size + 1 := by have := HLT.out; omega
  have hs0 := cell_beside hpt.grow HS.out.1 hne
  have hs1 := cell_beside hpt.grow HS.out.2 hne
  have hz1 := HB2.out.size
  have hlw : w.heap.size < W0.heap.size := by have := HSZ.out; omega
  have HB3 : Hid (Below W0.heap.size W0 w2) := HB2.out.grown hpt.grow HB2.out.size (fun k e => by cases e; omega)
  have hval : ∀ x, atL l x = f x := fun x => by have := hpt.val x; simpa [atL] using this
  have hlen : l.length ≤ 90000 := by have := hpt.len; simp at this; omega
  have hG := gcdL_list (D := M) hpt.rise
  have hfit : ∀ e ∈ l, (e.2.tdiv (gList M (l.map Prod.snd) : Int)).natAbs ≤ 1099511627776 := fun e he => by
    have h1 := HF.out e.1
    rw [← hval, atL_mem hpt.rise he] at h1
    rw [Int.natAbs_tdiv]
    exact Nat.le_trans (Nat.div_le_self _ _) (by omega)
  have ht := told_list (M : Int) (W0.heap.size + 1) nn l w2 hpt.own hpt.rise hpt.keys (by omega) (fun x => by rw [hval]; have := HF.out x; omega) (by omega) (by omega) _ hG (by rw [← Int.natCast_ediv]; exact Int.le_trans (Int.ofNat_le.2 (Nat.div_le_self _ _)) (by omega)) hfit
  have HLB : Hid (Rising l ∧ (∀ x, atL l x = f x) ∧ l.length ≤ 90000) := ⟨hpt.rise, hval, hlen⟩
  have HLW := Hid.mk' hlw
  clear hpt hval hlen hG hfit HF hz1 hlw HS HO1 HW1
  go_wp2_with fail
  refine ht.mono ?_
  clear ht hs0 hs1
  rintro e w3 ⟨v, rfl, hrow, hb3⟩
  obtain ⟨c0, c1, q0, q1⟩ := HRES.out w3 (below_chain HB3.out hb3)
  have HBW := Hid.mk' (below_chain HB0.out (below_chain HB3.out hb3))
  have HZ : Hid (w.heap.size < w2.heap.size) := by have h1 := HLW.out; have h2 := HB3.out.size; show _ < _; omega
  have HROW := Hid.mk' hrow
  obtain ⟨ad, n', c', rfl⟩ : ∃ ad n' c', v = .slice ad n' c' := by
    rcases hrow.2 with ⟨rfl, _⟩ | ⟨gg, cap', cur', rfl, _⟩
    · exact ⟨_, _, _, rfl⟩
    · exact ⟨_, _, _, rfl⟩
  clear hrow hb3 HRES
  go_wp2_with fail
  refine bodyPost_ret (v := .tuple #[.agg #[.int .i64 ((M : Int) / (gList M (l.map Prod.snd) : Int)), .slice ad n' c'], .nilIface]) (by simp [results, Tryz.results28, go_sem, c0, c1]) rfl ⟨_, .slice ad n' c', rfl, ⟨l, HLB.out.1, HLB.out.2.1, HLB.out.2.2, by simp, ?_⟩, ?_⟩
  · have h1 := ownsRow_setCell_below HROW.out (a := ⟨w.heap.size, 0, none⟩) HZ.out (.int .i64 ((M : Int) / (gList M (l.map Prod.snd) : Int)))
    have h2 := ownsRow_setCell_below h1 (a := ⟨w.heap.size, 1, none⟩) HZ.out (.slice ad n' c')
    exact row_base h2 (Nat.le_of_lt HZ.out)
  · exact (HBW.out.setCell (by simp) _).setCell (by simp) _

end Go.Proofs.YtmdimdoglpiiiaaGreatDoor

/- dist.Entropy at any weights. -/
namespace Go.Proofs.YtmdimdoglpiiiaaGreatDoor
open Go.RowKit Go.Maps

theorem new_one {w w1 : World} {x : Value} {t : TypeId} (hb : Below (w.alloc (.cells #[x] t)).heap.size (w.alloc (.cells #[x] t)) w1) : w1.cell? ⟨w.heap.size, 0, none⟩ = some x := by
  have c0 : (w.alloc (.cells #[x] t)).cell? ⟨w.heap.size, 0, none⟩ = some x := by rw [World.cell?_alloc_at _ _ _ _ rfl]; rfl
  exact (cell_past c0 hb).2

set_option maxRecDepth 100000 in
theorem Entropy_parts (den : Int) (mb B b o cap n : Nat) (z : Nat → Int) (w : World) (hown : w.ownsMap Tryz.prog 3 (plainElem (H := Unit) Tryz.prog 3) mb 0 (mapOf [])) (hB : w.cell? ⟨B, 0, none⟩ = some (.slice (some ⟨b, o, none⟩) n cap)) (h : RowAt w b o n z) (hz : ∀ i, i < n → 0 ≤ z i) (hs : sumN z n ≤ 4096) (hn : n ≤ 256) :
    Calls Tryz.prog 30 #[putV den mb, .pointer (some ⟨B, 0, none⟩)] w fun e w' => e = .returned (.tuple #[]) ∧ ∃ l nn, Puts w w' mb (fun x => sumN (entV z (sumN z n).toNat x) n) (2 * n) [] 0 l nn := by
  have hp := putEntropy_some den mb 0 b o cap n z [] w hown List.Pairwise.nil (fun e he => by cases he) (fun x => by simp [atL]) (by omega) h hz hs hn
  clear hown h hz hs
  unfold putV at hp ⊢
  go_enter Tryz.func30, Tryz.ntmps30
  go_wp2_with fail
  refine hp.mono ?_
  clear hp
  rintro e w1 ⟨rfl, l, nn, hpt⟩
  have HP := Hid.mk' hpt
  clear hpt
  go_wp2_with fail
  go_end0
  exact ⟨rfl, l, nn, HP.out⟩

theorem ent_bound {z : Nat → Int} {n N : Nat} (hz : ∀ i, i < n → 0 ≤ z i ∧ z i ≤ 4096) (hN : N ≤ 4096) (hn : n ≤ 256) (x : Int) : -1000000000 ≤ sumN (entV z N x) n ∧ sumN (entV z N x) n ≤ 1000000000 := by
  have h3 := sumN_bound (f := entV z N x) (B := 200000) (n := n) (fun i hi => entV_le x (hz i hi) hN)
  have : (n : Int) * 200000 ≤ 51200000 := by omega
  omega

set_option maxRecDepth 100000 in
set_option maxHeartbeats 1000000 in
theorem Entropy_ok (a : Nat → Addr) (b o cap n N : Nat) (z : Nat → Int) (w : World) (hE : Errs w a) (h : RowAt w b o n z) (h0 : weightsErr z n = 0) (hN : sumN z n = N) (hz : ∀ i, i < n → 0 ≤ z i) (hn : n ≤ 16) (hN1 : 1 ≤ N) (hN6 : N ≤ 4096) (h0n : 0 < n) :
    Calls Tryz.prog 13 #[.slice (some ⟨b, o, none⟩) n cap] w fun e w' => ∃ dn v, e = .returned (.tuple #[.agg #[.int .i64 dn, v], .nilIface]) ∧ LogBy w.heap.size N (fun x => sumN (entV z N x) n) w' dn v ∧ Below w.heap.size w w' := by
  have hzi : ∀ i, i < n → 0 ≤ z i ∧ z i ≤ 4096 := fun i hi => ⟨hz i hi, by have := sumN_ge hz hi; omega⟩
  have hle : ∀ k, k ≤ n → 0 ≤ sumN z k ∧ sumN z k ≤ 4096 := fun k hk => ⟨sumN_nonneg (fun i hi => hz i (by omega)), by have := sumN_mono hz hk; omega⟩
  obtain ⟨W0, hW0⟩ : ∃ W0, W0 = (w.alloc (.cells #[.slice (some ⟨b, o, none⟩) n cap] 32)).alloc (.cells #[.int .i64 0, .slice none 0 0] 51) := ⟨_, rfl⟩
  have hb0 : Below w.heap.size w W0 := by rw [hW0]; exact below_chain (new_below _ _) (new_below _ _)
  have hbox : W0.cell? ⟨w.heap.size, 0, none⟩ = some (.slice (some ⟨b, o, none⟩) n cap) := by rw [hW0]; exact new_one (new_below _ _)
  have hres : ∀ W, Below W0.heap.size W0 W → W.cell? ⟨w.heap.size + 1, 0, none⟩ = some (.int .i64 0) ∧ W.cell? ⟨w.heap.size + 1, 1, none⟩ = some (.slice none 0 0) ∧ W.frozen? ⟨w.heap.size + 1, 0, none⟩ = false ∧ W.frozen? ⟨w.heap.size + 1, 1, none⟩ = false := fun W hb => by
    rw [hW0] at hb
    have := res_past hb
    simpa using this
  have hv := Valid_weights a (.slice (some ⟨b, o, none⟩) n cap) n z W0 (hE.below hb0) (Or.inr ⟨b, o, cap, rfl, h0n, h.later hb0⟩) (by omega)
  rw [h0] at hv
  have ht := total_some b o cap n z W0 (h.later hb0) (fun k hk => by have := hle k hk; omega) (fun i hi => by have := hzi i hi; omega) (by omega)
  rw [hN] at ht
  have hso := sumOver_any 30 #[.pointer (some ⟨w.heap.size, 0, none⟩)] N (2 * n) (fun x => sumN (entV z N x) n) W0 (enters_of Tryz.func30 (by kernel_rfl) rfl) hN1 hN6 (by omega) (fun x => ent_bound hzi hN6 (by omega) x)
    (fun W mb hb ho => by
      have := Entropy_parts N mb w.heap.size b o cap n z W ho (cell_past hbox hb).2 ((h.later hb0).later hb) hz (by omega) (by omega)
      rw [hN, Int.toNat_natCast] at this
      exact this)
  have HB0 := Hid.mk' hb0
  have HRES := Hid.mk' hres
  have HW0 := Hid.mk' hW0
  have hlt : w.heap.size + 1 < W0.heap.size := by rw [hW0]; simp
  have HLT := Hid.mk' hlt
  clear hE h hb0 hres hW0 hzi hle hz hN h0 hlt
  go_enter Tryz.func13, Tryz.ntmps13
  go_upto_region 1 with fail
  rw [← HW0.out]
  go_wp2_with fail
  refine hv.mono ?_
  clear hv
  rintro e w1 ⟨rfl, hw1⟩
  rw [hw1]
  clear hw1
  rw [errV_zero]
  go_wp2_with (first
    | (go_at_call 29; refine ht.mono ?_; rintro e w2 ⟨rfl, hw2⟩; rw [hw2]; clear hw2)
    | (go_at_call 28; refine hso.mono ?_; rintro e w3 ⟨dn, v, rfl, hlb, hb3⟩; obtain ⟨c0, c1, q0, q1⟩ := HRES.out w3 hb3; have HBW := Hid.mk' (below_chain HB0.out hb3); have HLB := Hid.mk' hlb; obtain ⟨ad, n', c', rfl⟩ := hlb.form; clear hlb))
  refine bodyPost_ret (v := .tuple #[.agg #[.int .i64 dn, .slice ad n' c'], .nilIface]) (by simp [results, Tryz.results13, go_sem, c0, c1]) rfl ⟨_, .slice ad n' c', rfl, (HLB.out.set HLT.out _ _).lower (by have := HLT.out; omega), ?_⟩
  exact (HBW.out.setCell (by simp) _).setCell (by simp) _

set_option maxRecDepth 100000 in
set_option maxHeartbeats 1000000 in
theorem Entropy_bad (a : Nat → Addr) (v : Value) (n : Nat) (z : Nat → Int) (w : World) (hE : Errs w a) (h : NumsAt w v n z) (hn : n ≤ 400) (h0 : weightsErr z n ≠ 0) :
    Calls Tryz.prog 13 #[v] w fun e w' => e = .returned (.tuple #[.agg #[.int .i64 0, .slice none 0 0], errV a (weightsErr z n)]) ∧ Below w.heap.size w w' := by
  obtain ⟨ad, cap, rfl⟩ := h.form
  obtain ⟨W0, hW0⟩ : ∃ W0, W0 = (w.alloc (.cells #[.slice ad n cap] 32)).alloc (.cells #[.int .i64 0, .slice none 0 0] 51) := ⟨_, rfl⟩
  have hb0 : Below w.heap.size w W0 := by rw [hW0]; exact below_chain (new_below _ _) (new_below _ _)
  have hbox : W0.cell? ⟨w.heap.size, 0, none⟩ = some (.slice ad n cap) := by rw [hW0]; exact new_one (new_below _ _)
  have hres : W0.cell? ⟨w.heap.size + 1, 0, none⟩ = some (.int .i64 0) ∧ W0.cell? ⟨w.heap.size + 1, 1, none⟩ = some (.slice none 0 0) ∧ W0.frozen? ⟨w.heap.size + 1, 0, none⟩ = false ∧ W0.frozen? ⟨w.heap.size + 1, 1, none⟩ = false := by
    rw [hW0]
    simp
  have hv := Valid_weights a (.slice ad n cap) n z W0 (hE.below hb0) (h.later hb0) (by omega)
  rw [errV_pos a h0] at hv ⊢
  generalize a (weightsErr z n - 1) = ea at hv ⊢
  obtain ⟨c0, c1, q0, q1⟩ := hres
  have HB0 := Hid.mk' hb0
  have HW0 := Hid.mk' hW0
  clear hE h hb0 hW0 h0
  go_enter Tryz.func13, Tryz.ntmps13
  go_upto_region 1 with fail
  rw [← HW0.out]
  go_wp2_with (go_at_call 27; refine hv.mono ?_; rintro e w1 ⟨rfl, hw1⟩; rw [hw1]; clear hw1)
  refine bodyPost_ret (v := .tuple #[.agg #[.int .i64 0, .slice none 0 0], .iface 202 (.pointer (some ea))]) (by simp [results, Tryz.results13, go_sem, c0, c1]) rfl ⟨rfl, ?_⟩
  exact (HB0.out.setCell (by simp) _).setCell (by simp) _
end Go.Proofs.YtmdimdoglpiiiaaGreatDoor
