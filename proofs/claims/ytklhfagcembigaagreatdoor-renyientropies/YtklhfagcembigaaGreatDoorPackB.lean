/- A logarithm while the document makes it: two rows behind a pointer. -/
import Derived.Test.YtklhfagcembigaaGreatDoorWideMath
import Derived.Test.YtklhfagcembigaaGreatDoorPackA
import Derived.Deep.AppendLies
import Derived.Deep.Upon
import Derived.Deep.Onto
import Derived.Deep.CutBlock
import Derived.Test.YtklhfagcembigaaGreatDoorPutF
import Derived.Test.YtklhfagcembigaaGreatDoorOfAny
import Derived.Deep.CutRange
namespace Go.Proofs.YtklhfagcembigaaGreatDoor
open Go.RowKit

section
variable {P : Program} (w : World)
/-- append of nothing, or of what lies somewhere, to a row of one's own. -/
theorem run_append_src (t ty : TypeId) (base : Nat) (e : TypeId) (i : TypeInfo) (z : Value) (size bytes : Nat) (ht : P.underlying t = some (.slice e)) (hi : P.info? e = some i) (hz : i.zero = some z)
    (hsize : i.size = size) (hby : i.bytes = bytes) (hzs : z.cells.size = size) (hsz : 0 < size)
    (v : Value) (n : Nat) (xs : List Value) (hown : w.ownsRow base e size v n xs)
    (ad : Option Addr) (m c : Nat) (news : List Value) (hl : news.length = m * size) (hnews : ∀ j u, news[j]? = some u → ∃ a', ad = some a' ∧ w.cell? (a'.add j) = some u) (h1 : ∀ u ∈ news, u.oneCell' = true)
    (h63 : n + m ≤ maxLen) (hbytes : (n + m) * bytes ≤ 140737488355328) (hbase : base ≤ w.heap.size) :
    ∃ v' w', (Builtin.append_ #[t, t] ty #[v, .slice ad m c]).run P w = .ok v' w' ∧
      w'.ownsRow base e size v' (n + m) (xs ++ news) ∧ w.grownBy w' v.ownBlock ∧ ∃ ad' c', v' = .slice ad' (n + m) c' := by
  rcases Nat.eq_zero_or_pos m with rfl | hm
  · have hn0 : news = [] := List.length_eq_zero_iff.1 (by rw [hl, Nat.zero_mul])
    subst hn0
    have hsrc : Src P i.size t (.slice ad 0 c) 0 [] w := by
      cases ad with
      | none => exact Src.ofNil w ht c
      | some a => exact Src.ofSlice w ht a 0 c [] (by simp) (fun j u h => by simp at h) (fun u h => by simp at h)
    refine ⟨v, w, ?_, by simpa using hown, ⟨rfl, rfl, rfl, Nat.le_refl _, fun _ _ _ => rfl⟩, ?_⟩
    · rcases hown.2 with ⟨rfl, _⟩ | ⟨g, cap, cur, rfl, _, _, hle, _⟩
      · exact run_append_nothing w t t ty e i ht hi none 0 0 (Nat.le_refl _) _ hsrc
      · exact run_append_nothing w t t ty e i ht hi _ n cap hle _ hsrc
    · rcases hown.2 with ⟨rfl, rfl⟩ | ⟨g, cap, cur, rfl, _, _, hle, _⟩
      · exact ⟨_, _, rfl⟩
      · exact ⟨_, _, rfl⟩
  · have hne : 0 < news.length := by rw [hl]; exact Nat.mul_pos hm hsz
    obtain ⟨a', rfl, _⟩ := hnews 0 _ (List.getElem?_eq_getElem hne)
    obtain ⟨g, cap, w', h2, h3, h4, _, _⟩ := run_append_lies (P := P) w t ty base e i z size bytes ht hi hz hsize hby hzs hsz v n xs hown a' m c news hl (fun j u hu => by obtain ⟨b, hb, hc⟩ := hnews j u hu; cases hb; exact hc) h1 hm h63 hbytes hbase _ rfl
    exact ⟨_, w', h2, h3, h4, _, _, rfl⟩

theorem wpList_append_src {ops : Array Oper} {rest : List Oper} {o : Oper} {a : Act} {Q : Exit → Act → World → Prop} (hgd : o.guard = none) (s x : Operand) (t : TypeId)
    (ho : o.op = .call { callee := .builtin .append, args := #[s, x], argTypes := #[t, t] })
    (base : Nat) (e : TypeId) (i : TypeInfo) (z : Value) (size bytes : Nat) (ht : P.underlying t = some (.slice e)) (hi : P.info? e = some i) (hz : i.zero = some z)
    (hsize : i.size = size) (hby : i.bytes = bytes) (hzs : z.cells.size = size) (hsz : 0 < size)
    (v : Value) (n : Nat) (xs : List Value) (hs : a.eval s = v) (hown : w.ownsRow base e size v n xs)
    (ad : Option Addr) (m c : Nat) (news : List Value) (hx : a.eval x = .slice ad m c) (hl : news.length = m * size) (hnews : ∀ j u, news[j]? = some u → ∃ a', ad = some a' ∧ w.cell? (a'.add j) = some u) (h1 : ∀ u ∈ news, u.oneCell' = true)
    (h63 : n + m ≤ maxLen) (hbytes : (n + m) * bytes ≤ 140737488355328) (hbase : base ≤ w.heap.size) (N : Nat) (hN : n + m = N)
    (h : ∀ ad' c' w', w'.ownsRow base e size (.slice ad' N c') N (xs ++ news) → w.grownBy w' v.ownBlock → wpList P ops Q rest (a.put o.dst (.slice ad' N c')) w') : wpList P ops Q (o :: rest) a w := by
  subst hN
  refine wpList_plain hgd fun K hK => ?_
  obtain ⟨v', w', hr, h2, h3, ad', c', rfl⟩ := run_append_src (P := P) w t o.type base e i z size bytes ht hi hz hsize hby hzs hsz v n xs hown ad m c news hl hnews h1 h63 hbytes hbase
  unfold Oper.wp execOp
  simp only [ho, resolve, invoke, builtin, Sem.run_bind, Sem.run_pure, Result.andThen_ok, List.map_toArray, List.map_cons, List.map_nil, hs, hx, hr]
  exact hK _ _ (h ad' c' w' h2 h3)
end

/-- A prime, its coefficient as it lies, and what that is over the common denominator. -/
structure Ent where
  p : Nat
  x : Value
  y : Value
  q : Value
  z : Int
def Ent.val (e : Ent) : Value := .agg #[e.x, e.y, e.q]
def flat3 : List Ent → List Value
  | [] => []
  | e :: r => e.x :: e.y :: e.q :: flat3 r
def primes (L : List Ent) : List Nat := L.map fun e => e.p
def absL (L : List Ent) : List (Int × Int) := L.map fun e => ((e.p : Int), e.z)
theorem flat3_length : ∀ L : List Ent, (flat3 L).length = L.length * 3
  | [] => rfl
  | e :: r => by
    show (flat3 r).length + 1 + 1 + 1 = (r.length + 1) * 3
    rw [flat3_length r]; omega
theorem flat3_append : ∀ A B : List Ent, flat3 (A ++ B) = flat3 A ++ flat3 B
  | [], B => rfl
  | e :: A, B => by
    show e.x :: e.y :: e.q :: flat3 (A ++ B) = e.x :: e.y :: e.q :: (flat3 A ++ flat3 B)
    rw [flat3_append A B]
theorem flat3_at : ∀ (L : List Ent) (i : Nat) (e : Ent), L[i]? = some e → (flat3 L)[i * 3]? = some e.x ∧ (flat3 L)[i * 3 + 1]? = some e.y ∧ (flat3 L)[i * 3 + 2]? = some e.q
  | [], i, e, h => by simp at h
  | f :: r, 0, e, h => by
    simp at h
    subst h
    exact ⟨rfl, rfl, rfl⟩
  | f :: r, i + 1, e, h => by
    have h' := flat3_at r i e (by simpa using h)
    have e1 : (i + 1) * 3 = i * 3 + 1 + 1 + 1 := by omega
    rw [e1]
    exact h'
theorem flat3_mem : ∀ (L : List Ent) (u : Value), u ∈ flat3 L → ∃ e ∈ L, u = e.x ∨ u = e.y ∨ u = e.q
  | [], u, h => by simp [flat3] at h
  | f :: r, u, h => by
    simp only [flat3, List.mem_cons] at h
    rcases h with h | h | h | h
    · exact ⟨f, List.mem_cons_self .., Or.inl h⟩
    · exact ⟨f, List.mem_cons_self .., Or.inr (Or.inl h)⟩
    · exact ⟨f, List.mem_cons_self .., Or.inr (Or.inr h)⟩
    · obtain ⟨e, he, h'⟩ := flat3_mem r u h
      exact ⟨e, List.mem_cons_of_mem _ he, h'⟩
theorem flat3_set : ∀ (L : List Ent) (k : Nat) (e : Ent), k < L.length → (((flat3 L).set (k * 3) e.x).set (k * 3 + 1) e.y).set (k * 3 + 2) e.q = flat3 (L.set k e)
  | [], k, e, h => by simp at h
  | f :: r, 0, e, _ => rfl
  | f :: r, k + 1, e, h => by
    have ih := flat3_set r k e (by simpa using h)
    have e1 : (k + 1) * 3 = k * 3 + 1 + 1 + 1 := by omega
    rw [e1]
    show f.x :: f.y :: f.q :: ((((flat3 r).set (k * 3) e.x).set (k * 3 + 1) e.y).set (k * 3 + 2) e.q) = f.x :: f.y :: f.q :: flat3 (r.set k e)
    rw [ih]
theorem flat3_take (L : List Ent) (k : Nat) : flat3 L = flat3 (L.take k) ++ flat3 (L.drop k) := by rw [← flat3_append, List.take_append_drop]

/-- Whole numbers that lie somewhere stay. -/
def IntsKept (w w' : World) : Prop := ∀ a x, w.cell? a = some (.int .i64 x) → w'.cell? a = some (.int .i64 x)
theorem IntsKept.refl (w : World) : IntsKept w w := fun _ _ h => h
theorem IntsKept.trans {w w' w'' : World} (h : IntsKept w w') (h' : IntsKept w' w'') : IntsKept w w'' := fun a x e => h' a x (h a x e)
theorem IntsKept.of_below {w w' : World} (h : Below w.heap.size w w') : IntsKept w w' := fun a x e => by rw [h.cell (cell_lt e)]; exact e
theorem IntsKept.set {w : World} {a : Addr} {v y : Value} (hv : w.cell? a = some v) (hn : ∀ x, v ≠ .int .i64 x) : IntsKept w (w.setCell a y) := fun b x e => by
  by_cases h : b = a
  · subst h; rw [hv] at e; exact absurd (Option.some.inj e) (hn x)
  · rw [World.cell?_setCell_other _ _ _ _ (Ne.symm h)]; exact e
theorem IntsAt.kept {w w' : World} {v : Value} {l : List Nat} (h : IntsAt w v l) (hk : IntsKept w w') : IntsAt w' v l := by
  rcases h with h | ⟨b, o, cap, h1, h2, h3, h4⟩
  · exact Or.inl h
  · exact Or.inr ⟨b, o, cap, h1, h2, h3, fun i hi => hk _ _ (h4 i hi)⟩
theorem BigAt.kept {w w' : World} {v : Value} {n : Nat} (h : BigAt w v n) (hk : IntsKept w w') : BigAt w' v n := by
  obtain ⟨l, h1, h2, h3, h4⟩ := h
  exact ⟨l, h1, h2, h3, h4.kept hk⟩
theorem RatioAt.kept {w w' : World} {v : Value} {n : Int} {d : Nat} (h : RatioAt w v n d) (hk : IntsKept w w') : RatioAt w' v n d := by
  obtain ⟨u, q, h1, h2, h3⟩ := h
  exact ⟨u, q, h1, h2.kept hk, h3.kept hk⟩

/-- The pointer's own block, and that of its coefficients. -/
def Mine (B : Nat) (w : World) (k : Nat) : Prop := k = B ∨ ∃ n cap, w.cell? ⟨B, 1, none⟩ = some (.slice (some ⟨k, 0, none⟩) n cap)
/-- No other block has changed. -/
structure Moved (B : Nat) (w w' : World) : Prop where
  size : w.heap.size ≤ w'.heap.size
  block : ∀ k, k < w.heap.size → ¬ Mine B w k → w'.heap[k]? = w.heap[k]? ∧ ¬ Mine B w' k
theorem Moved.refl (B : Nat) (w : World) : Moved B w w := ⟨Nat.le_refl _, fun _ _ h => ⟨rfl, h⟩⟩
theorem Moved.trans {B : Nat} {w w' w'' : World} (h : Moved B w w') (h' : Moved B w' w'') : Moved B w w'' :=
  ⟨Nat.le_trans h.size h'.size, fun k hk hm => by
    obtain ⟨h1, h2⟩ := h.block k hk hm
    obtain ⟨h3, h4⟩ := h'.block k (Nat.lt_of_lt_of_le hk h.size) h2
    exact ⟨h3.trans h1, h4⟩⟩
theorem Moved.of_below {B : Nat} {w w' : World} (h : Below w.heap.size w w') (hB : B < w.heap.size) : Moved B w w' :=
  ⟨h.size, fun k hk hm => ⟨h.block k hk, fun h' => hm (by
    rcases h' with h' | ⟨n, cap, h'⟩
    · exact Or.inl h'
    · exact Or.inr ⟨n, cap, by rw [← h']; exact (h.cell (p := ⟨B, 1, none⟩) hB).symm⟩)⟩⟩
theorem Moved.cell {B : Nat} {w w' : World} (h : Moved B w w') {a : Addr} (ha : a.block < w.heap.size) (hm : ¬ Mine B w a.block) : w'.cell? a = w.cell? a := World.cell?_of_block (h.block _ ha hm).1

theorem ownsRow_past {w w' : World} {base e size n : Nat} {v : Value} {xs : List Value} (h : w.ownsRow base e size v n xs) (hb : Below w.heap.size w w') : w'.ownsRow base e size v n xs :=
  h.kept (row := none) ⟨hb.os, hb.tape, hb.output, hb.size, fun k hk _ => hb.block k hk⟩ (by cases hv : v.ownBlock <;> simp)
structure WideAt (base M : Nat) (W : World) (B : Nat) (vp vc : Value) (L : List Ent) : Prop where
  hB : base ≤ B
  cp : W.cell? ⟨B, 0, none⟩ = some vp
  cc : W.cell? ⟨B, 1, none⟩ = some vc
  f0 : W.frozen? ⟨B, 0, none⟩ = false
  f1 : W.frozen? ⟨B, 1, none⟩ = false
  P : W.ownsRow base 3 1 vp L.length (digCells (primes L))
  C : W.ownsRow base 57 3 vc L.length (flat3 L)
  R : ∀ e ∈ L, RatioAt W e.val (lowN M e.z) (lowD M e.z)
  nil : L = [] → vp = .slice none 0 0 ∧ vc = .slice none 0 0
theorem WideAt.lt {base M : Nat} {W : World} {B : Nat} {vp vc : Value} {L : List Ent} (h : WideAt base M W B vp vc L) : B < W.heap.size := cell_lt h.cp
theorem WideAt.later {base M : Nat} {W W' : World} {B : Nat} {vp vc : Value} {L : List Ent} (h : WideAt base M W B vp vc L) (hb : Below W.heap.size W W') : WideAt base M W' B vp vc L :=
  ⟨h.hB, (cell_past h.cp hb).2, (cell_past h.cc hb).2, (frozen_past h.cp h.f0 hb).2, (frozen_past h.cc h.f1 hb).2, ownsRow_past h.P hb, ownsRow_past h.C hb, fun e he => (h.R e he).later hb, h.nil⟩
/-- A fraction's three values. -/
theorem RatioAt.parts {w : World} {v : Value} {n : Int} {d : Nat} (h : RatioAt w v n d) : ∃ s ad l cap ad' l' cap', v = .agg #[.bool s, .slice ad l cap, .slice ad' l' cap'] := by
  obtain ⟨u, q, rfl, h1, h2⟩ := h
  obtain ⟨ad, l, cap, rfl, _⟩ := h1.len
  obtain ⟨ad', l', cap', rfl, _⟩ := h2.len
  exact ⟨_, _, _, _, _, _, _, rfl⟩
theorem Ent.parts {w : World} {e : Ent} {n : Int} {d : Nat} (h : RatioAt w e.val n d) : ∃ s ad l cap ad' l' cap', e.x = .bool s ∧ e.y = .slice ad l cap ∧ e.q = .slice ad' l' cap' := by
  obtain ⟨s, ad, l, cap, ad', l', cap', h⟩ := h.parts
  unfold Ent.val at h
  simp at h
  exact ⟨s, ad, l, cap, ad', l', cap', h⟩
theorem WideAt.no_ints {base M : Nat} {W : World} {B : Nat} {vp vc : Value} {L : List Ent} (h : WideAt base M W B vp vc L) : ∀ u ∈ flat3 L, (∀ x, u ≠ .int .i64 x) ∧ u.oneCell' = true := fun u hu => by
  obtain ⟨e, he, hu⟩ := flat3_mem L u hu
  obtain ⟨s, ad, l, cap, ad', l', cap', h1, h2, h3⟩ := Ent.parts (h.R e he)
  rcases hu with rfl | rfl | rfl
  · rw [h1]; exact ⟨(fun x e => by cases e), rfl⟩
  · rw [h2]; exact ⟨(fun x e => by cases e), rfl⟩
  · rw [h3]; exact ⟨(fun x e => by cases e), rfl⟩
theorem grownBy_set (w : World) (a : Addr) (u : Value) : w.grownBy (w.setCell a u) (some a.block) := ⟨rfl, rfl, rfl, by simp, fun k _ hk => heap_setCell_other w a k u (fun e => hk (by simp [e]))⟩
theorem src_left {W : World} {base e size g n cap : Nat} {A B : List Value} (h : W.ownsRow base e size (.slice (some ⟨g, 0, none⟩) n cap) n (A ++ B)) : ∀ j u, A[j]? = some u → ∃ a', some (⟨g, 0, none⟩ : Addr) = some a' ∧ W.cell? (a'.add j) = some u := fun j u hu => by
  have hlt : j < A.length := (List.getElem?_eq_some_iff.1 hu).1
  have hl := h.1
  rw [List.length_append] at hl
  refine ⟨_, rfl, ?_⟩
  rw [add_plain, Nat.zero_add, h.cellAt j (by omega), List.getElem?_append_left hlt]
  exact hu
theorem src_right {W : World} {base e size g n cap : Nat} {A B : List Value} (h : W.ownsRow base e size (.slice (some ⟨g, 0, none⟩) n cap) n (A ++ B)) {o : Nat} (ho : A.length = o) : ∀ j u, B[j]? = some u → ∃ a', some (⟨g, o, none⟩ : Addr) = some a' ∧ W.cell? (a'.add j) = some u := fun j u hu => by
  have hlt : j < B.length := (List.getElem?_eq_some_iff.1 hu).1
  have hl := h.1
  rw [List.length_append] at hl
  refine ⟨_, rfl, ?_⟩
  rw [add_plain, h.cellAt (o + j) (by omega), List.getElem?_append_right (by omega), ← ho, Nat.add_sub_cancel_left]
  exact hu
theorem src_right_if {W : World} {base e size g n cap m : Nat} {A B : List Value} (h : W.ownsRow base e size (.slice (some ⟨g, 0, none⟩) n cap) n (A ++ B)) {o : Nat} (ho : A.length = o) (hm : cap = m → B = []) : ∀ j u, B[j]? = some u → ∃ a', (if cap = m then some (⟨g, 0, none⟩ : Addr) else some ⟨g, o, none⟩) = some a' ∧ W.cell? (a'.add j) = some u := fun j u hu => by
  by_cases hc : cap = m
  · rw [hm hc] at hu; simp at hu
  · rw [if_neg hc]; exact src_right h ho j u hu
theorem three_new_past {w W : World} {x y z : Value} {t : TypeId} (hb : Below (w.alloc (.cells #[x, y, z] t)).heap.size (w.alloc (.cells #[x, y, z] t)) W) : W.cell? ⟨w.heap.size, 0, none⟩ = some x ∧ W.cell? ⟨w.heap.size, 1, none⟩ = some y ∧ W.cell? ⟨w.heap.size, 2, none⟩ = some z := by
  refine ⟨(cell_past ?_ hb).2, (cell_past ?_ hb).2, (cell_past ?_ hb).2⟩
  · rw [World.cell?_alloc_at _ _ _ _ rfl]; rfl
  · rw [World.cell?_alloc_at _ _ _ _ rfl]; rfl
  · rw [World.cell?_alloc_at _ _ _ _ rfl]; rfl
theorem src_new (w : World) (cs : Array Value) (t : TypeId) : ∀ j u, cs.toList[j]? = some u → ∃ a', some (⟨w.heap.size, 0, none⟩ : Addr) = some a' ∧ (w.alloc (.cells cs t)).cell? (a'.add j) = some u := fun j u hu => by
  refine ⟨_, rfl, ?_⟩
  rw [add_plain, Nat.zero_add, World.cell?_alloc_at _ _ _ _ rfl]
  simpa using hu
theorem dig_cut (l : List Nat) (k : Nat) : digCells l = digCells (l.take k) ++ digCells (l.drop k) := by
  unfold digCells
  rw [← List.map_append, List.take_append_drop]
theorem primes_join (A B : List Ent) : primes (A ++ B) = primes A ++ primes B := by unfold primes; rw [List.map_append]
theorem absL_join (A B : List Ent) : absL (A ++ B) = absL A ++ absL B := by unfold absL; rw [List.map_append]
theorem cell_set0 {W : World} {B : Nat} {v vc u : Value} (hp : W.cell? ⟨B, 0, none⟩ = some v) (hc : W.cell? ⟨B, 1, none⟩ = some vc) : (W.setCell ⟨B, 0, none⟩ u).cell? ⟨B, 0, none⟩ = some u ∧ (W.setCell ⟨B, 0, none⟩ u).cell? ⟨B, 1, none⟩ = some vc := ⟨World.cell?_setCell_same _ _ _ hp, by rw [World.cell?_setCell_other _ _ _ _ (by simp)]; exact hc⟩

/-- A prime more, laid between the others. -/
theorem wide_insert {base M B k n c3 c6 : Nat} {W1 w4 W2 w7 : World} {vp vc : Value} {L : List Ent} {e : Ent} {ad3 ad6 : Option Addr} (h : WideAt base M W1 B vp vc L) (hb4 : Below W1.heap.size W1 w4)
    (hP : w4.ownsRow W1.heap.size 3 1 (.slice ad3 n c3) n (digCells (primes (L.take k)) ++ [.int .i64 (e.p : Int)] ++ digCells (primes (L.drop k)))) (hW2 : W2 = w4.setCell ⟨B, 0, none⟩ (.slice ad3 n c3)) (hb7 : Below W2.heap.size W2 w7)
    (hC : w7.ownsRow W2.heap.size 57 3 (.slice ad6 n c6) n (flat3 (L.take k) ++ [e.x, e.y, e.q] ++ flat3 (L.drop k))) (hR : RatioAt W1 e.val (lowN M e.z) (lowD M e.z)) :
    WideAt base M (w7.setCell ⟨B, 1, none⟩ (.slice ad6 n c6)) B (.slice ad3 n c3) (.slice ad6 n c6) (L.take k ++ e :: L.drop k) ∧ IntsKept W1 (w7.setCell ⟨B, 1, none⟩ (.slice ad6 n c6)) ∧ Moved B W1 (w7.setCell ⟨B, 1, none⟩ (.slice ad6 n c6)) ∧ Below base W1 (w7.setCell ⟨B, 1, none⟩ (.slice ad6 n c6)) := by
  have h4 := h.later hb4
  have hB1 := h.lt
  obtain ⟨q0, q1⟩ := cell_set0 (u := .slice ad3 n c3) h4.cp h4.cc
  rw [← hW2] at q0 q1
  have hf0 : W2.frozen? ⟨B, 0, none⟩ = false := by rw [hW2, World.frozen?_setCell]; exact h4.f0
  have hf1 : W2.frozen? ⟨B, 1, none⟩ = false := by rw [hW2, World.frozen?_setCell]; exact h4.f1
  have hsz2 : W2.heap.size = w4.heap.size := by rw [hW2]; simp
  have hs4 := hb4.size
  have hs7 := hb7.size
  have hBb := h.hB
  have hn : n = L.length + 1 := by
    have h1 := hC.1
    have h2 := flat3_length L
    rw [flat3_take L k, List.length_append] at h2
    simp only [List.length_append, List.length_cons, List.length_nil] at h1
    omega
  obtain ⟨g3, cap3, e3, hg3, _⟩ := hP.form (by omega)
  obtain ⟨g6, cap6, e6, hg6, hg6'⟩ := hC.form (by omega)
  have hK4 : IntsKept W1 w4 := IntsKept.of_below hb4
  obtain ⟨vps, hvps⟩ : ∃ a c, vp = .slice a L.length c := by
    rcases h.P.2 with ⟨rfl, h0⟩ | ⟨g, cap, cur, rfl, _⟩
    · exact ⟨none, 0, by rw [h0]⟩
    · exact ⟨_, _, rfl⟩
  obtain ⟨vpc, rfl⟩ := hvps
  obtain ⟨vcs, hvcs⟩ : ∃ a c, vc = .slice a L.length c := by
    rcases h.C.2 with ⟨rfl, h0⟩ | ⟨g, cap, cur, rfl, _⟩
    · exact ⟨none, 0, by rw [h0]⟩
    · exact ⟨_, _, rfl⟩
  obtain ⟨vcc, rfl⟩ := hvcs
  have hK2 : IntsKept W1 W2 := hK4.trans (by rw [hW2]; exact IntsKept.set h4.cp (fun x e => by cases e))
  have hK7 : IntsKept W1 w7 := hK2.trans (IntsKept.of_below hb7)
  have r1 := (cell_past q1 hb7).2
  have r0 := (cell_past q0 hb7).2
  have hK8 : IntsKept W1 (w7.setCell ⟨B, 1, none⟩ (.slice ad6 n c6)) := hK7.trans (IntsKept.set r1 (fun x e => by cases e))
  have hlen : (L.take k ++ e :: L.drop k).length = n := by
    have : (L.take k).length + (L.drop k).length = L.length := by rw [← List.length_append, List.take_append_drop]
    simp only [List.length_append, List.length_cons]
    omega
  have hP7 : w7.ownsRow W1.heap.size 3 1 (.slice ad3 n c3) n (digCells (primes (L.take k)) ++ [.int .i64 (e.p : Int)] ++ digCells (primes (L.drop k))) := by
    refine ownsRow_past ?_ hb7
    rw [hW2]
    refine hP.kept (grownBy_set _ _ _) (Or.inr ?_)
    rw [e3]
    simp [Value.ownBlock]
    omega
  refine ⟨⟨hBb, ?_, ?_, ?_, ?_, ?_, ?_, ?_, ?_⟩, hK8, ⟨?_, ?_⟩, ?_⟩
  · rw [World.cell?_setCell_other _ _ _ _ (by simp)]; exact r0
  · exact World.cell?_setCell_same _ _ _ r1
  · rw [World.frozen?_setCell]; exact (frozen_past q0 hf0 hb7).2
  · rw [World.frozen?_setCell]; exact (frozen_past q1 hf1 hb7).2
  · rw [hlen]
    have h1 := hP7.mono (show base ≤ W1.heap.size by omega)
    have h2 := h1.kept (grownBy_set w7 ⟨B, 1, none⟩ (.slice ad6 n c6)) (Or.inr (by rw [e3]; simp [Value.ownBlock]; omega))
    rw [primes_join]
    simpa [digCells, primes] using h2
  · rw [hlen]
    have h1 := hC.mono (show base ≤ W2.heap.size by omega)
    have h2 := h1.kept (grownBy_set w7 ⟨B, 1, none⟩ (.slice ad6 n c6)) (Or.inr (by rw [e6]; simp [Value.ownBlock]; omega))
    rw [flat3_append]
    simpa [flat3] using h2
  · intro f hf
    have : f = e ∨ f ∈ L := by
      rcases List.mem_append.1 hf with h1 | h1
      · exact Or.inr (List.mem_of_mem_take h1)
      · rcases List.mem_cons.1 h1 with h1 | h1
        · exact Or.inl h1
        · exact Or.inr (List.mem_of_mem_drop h1)
    rcases this with rfl | hf
    · exact hR.kept hK8
    · exact (h.R f hf).kept hK8
  · intro h0
    have := congrArg List.length h0
    rw [hlen] at this
    simp at this
    omega
  · simp; omega
  · intro j hj hm
    have hjB : j ≠ B := fun e => hm (Or.inl e)
    refine ⟨?_, fun h' => ?_⟩
    · rw [heap_setCell_other w7 ⟨B, 1, none⟩ j _ hjB, hb7.block j (by omega), hW2, heap_setCell_other w4 ⟨B, 0, none⟩ j _ hjB, hb4.block j hj]
    · rcases h' with h' | ⟨n', cap', h'⟩
      · exact hjB h'
      · rw [World.cell?_setCell_same _ _ _ r1, e6] at h'
        have h8 : g6 = j := by injection h' with h'; injection h' with h'; injection h' with h'; injection h'
        omega
  · have b1 : Below base W1 w4 := hb4.mono (by omega)
    have b2 : Below base W1 W2 := by rw [hW2]; exact b1.setCell hBb _
    exact (b2.trans (hb7.mono (by omega))).setCell hBb _
/-- The place among the primes. -/
theorem primes_at {L : List Ent} {i : Nat} (h : i < L.length) : (primes L).getD i 0 = (L[i]).p := by simp [primes, List.getD, h]
theorem take_less {L : List Ent} {k p : Nat} (h : ∀ i, i < k → (primes L).getD i 0 < p) : ∀ e ∈ absL (L.take k), e.1 < (p : Int) := fun e he => by
  unfold absL at he
  obtain ⟨f, hf, rfl⟩ := List.mem_map.1 he
  obtain ⟨i, hi, rfl⟩ := List.getElem_of_mem hf
  have hi' := hi
  rw [List.length_take] at hi'
  have := h i (by omega)
  rw [primes_at (by omega)] at this
  rw [List.getElem_take]
  simp only
  omega
theorem rising_drop {L : List Ent} (hr : Rising (absL L)) {k p : Nat} (hk : k < L.length) (h : p < (L[k]).p) : ∀ e ∈ absL (L.drop k), (p : Int) < e.1 := fun e he => by
  have e1 : L.drop k = L[k] :: L.drop (k + 1) := List.drop_eq_getElem_cons hk
  have h1 : Rising (absL (L.drop k)) := by
    have : absL (L.drop k) = (absL L).drop k := by unfold absL; rw [List.map_drop]
    rw [this]
    exact hr.sublist (List.drop_sublist _ _)
  rw [e1] at he h1
  have h2 := List.pairwise_cons.1 (show List.Pairwise (fun a b : Int × Int => a.1 < b.1) (((L[k]).p, (L[k]).z) :: absL (L.drop (k + 1))) from h1)
  rcases List.mem_cons.1 (show e ∈ (((L[k]).p : Int), (L[k]).z) :: absL (L.drop (k + 1)) from he) with rfl | h3
  · simp only; omega
  · have := h2.1 e h3
    simp only at this
    omega
theorem put_between {L : List Ent} {k p : Nat} {x y q : Value} {z : Int} (hr : Rising (absL L)) (hlt : ∀ i, i < k → (primes L).getD i 0 < p) (hge : k < L.length → p ≤ (primes L).getD k 0) (hne : false = true ↔ (k < L.length ∧ (primes L).getD k 0 = p)) : Put (absL L) (absL (L.take k ++ ⟨p, x, y, q, z⟩ :: L.drop k)) p z := by
  have e1 : absL L = absL (L.take k) ++ absL (L.drop k) := by rw [← absL_join, List.take_append_drop]
  rw [absL_join]
  rw [e1] at hr ⊢
  refine put_new hr (take_less hlt) ?_
  rcases Nat.lt_or_ge k L.length with hk | hk
  · have h1 := hge hk
    have h2 : (primes L).getD k 0 ≠ p := fun h => by have := hne.2 ⟨hk, h⟩; cases this
    rw [primes_at hk] at h1 h2
    have h3 : p < (L[k]).p := by omega
    exact rising_drop (by rw [e1]; exact hr) hk h3
  · rw [List.drop_eq_nil_of_le hk]
    intro e he
    simp [absL] at he
theorem WideAt.apart {base M : Nat} {W : World} {B gp gc capp capc : Nat} {L : List Ent} (h : WideAt base M W B (.slice (some ⟨gp, 0, none⟩) L.length capp) (.slice (some ⟨gc, 0, none⟩) L.length capc) L) (hL : 0 < L.length) : gc ≠ B ∧ gp ≠ gc := by
  obtain ⟨e0, he0⟩ : ∃ e0, L[0]? = some e0 := ⟨_, List.getElem?_eq_getElem hL⟩
  have h7 := (flat3_at L 0 e0 he0).1
  obtain ⟨s', _, _, _, _, _, _, h8, _⟩ := Ent.parts (h.R e0 (List.mem_of_getElem? he0))
  rw [Nat.zero_mul] at h7
  have h5 := h.C.cellAt 0 (by omega)
  rw [h7, h8] at h5
  refine ⟨fun e => ?_, fun e => ?_⟩
  · have h6 := h.cp
    rw [e] at h5
    rw [h6] at h5
    cases h5
  · have h6 := h.P.cellAt 0 (by omega)
    rw [e, h5, digCells_get (by unfold primes; simpa using hL)] at h6
    cases h6
/-- A prime's coefficient, laid anew. -/
theorem wide_store {base M B k gp gc capp capc : Nat} {W1 w5 : World} {L : List Ent} {e : Ent} (h : WideAt base M W1 B (.slice (some ⟨gp, 0, none⟩) L.length capp) (.slice (some ⟨gc, 0, none⟩) L.length capc) L) (hk : k < L.length) (hb5 : Below W1.heap.size W1 w5) (hp : e.p = (L[k]).p) (hR : RatioAt w5 e.val (lowN M e.z) (lowD M e.z)) :
    WideAt base M (((w5.setCell ⟨gc, k * 3, none⟩ e.x).setCell ⟨gc, k * 3 + 1, none⟩ e.y).setCell ⟨gc, k * 3 + 2, none⟩ e.q) B (.slice (some ⟨gp, 0, none⟩) L.length capp) (.slice (some ⟨gc, 0, none⟩) L.length capc) (L.set k e) ∧ IntsKept W1 (((w5.setCell ⟨gc, k * 3, none⟩ e.x).setCell ⟨gc, k * 3 + 1, none⟩ e.y).setCell ⟨gc, k * 3 + 2, none⟩ e.q) ∧ Moved B W1 (((w5.setCell ⟨gc, k * 3, none⟩ e.x).setCell ⟨gc, k * 3 + 1, none⟩ e.y).setCell ⟨gc, k * 3 + 2, none⟩ e.q) ∧ Below base W1 (((w5.setCell ⟨gc, k * 3, none⟩ e.x).setCell ⟨gc, k * 3 + 1, none⟩ e.y).setCell ⟨gc, k * 3 + 2, none⟩ e.q) := by
  have h5 := h.later hb5
  have hL : 0 < L.length := by omega
  obtain ⟨hgB, hgp⟩ := h5.apart hL
  have hBb := h.hB
  obtain ⟨t1, g1⟩ := h5.C.stored (k * 3) e.x
  obtain ⟨t2, g2⟩ := t1.stored (k * 3 + 1) e.y
  obtain ⟨t3, g3⟩ := t2.stored (k * 3 + 2) e.q
  rw [flat3_set L k e hk] at t3
  obtain ⟨f, hf⟩ : ∃ f, L[k]? = some f := ⟨_, List.getElem?_eq_getElem hk⟩
  obtain ⟨x0, x1, x2⟩ := flat3_at L k f hf
  have hfl := flat3_length L
  have y0 := h5.C.cellAt (k * 3) (by omega)
  have y1 := h5.C.cellAt (k * 3 + 1) (by omega)
  have y2 := h5.C.cellAt (k * 3 + 2) (by omega)
  rw [x0] at y0
  rw [x1] at y1
  rw [x2] at y2
  obtain ⟨_, _, _, _, _, _, _, z0, z1, z2⟩ := Ent.parts (h5.R f (List.mem_of_getElem? hf))
  have k5 : IntsKept W1 w5 := IntsKept.of_below hb5
  have k6 := k5.trans (IntsKept.set (y := e.x) y0 (fun x e => by rw [z0] at e; cases e))
  have y1' : (w5.setCell ⟨gc, k * 3, none⟩ e.x).cell? ⟨gc, k * 3 + 1, none⟩ = some f.y := by rw [World.cell?_setCell_other _ _ _ _ (by simp)]; exact y1
  have k7 := k6.trans (IntsKept.set (y := e.y) y1' (fun x e => by rw [z1] at e; cases e))
  have y2' : ((w5.setCell ⟨gc, k * 3, none⟩ e.x).setCell ⟨gc, k * 3 + 1, none⟩ e.y).cell? ⟨gc, k * 3 + 2, none⟩ = some f.q := by rw [World.cell?_setCell_other _ _ _ _ (by simp), World.cell?_setCell_other _ _ _ _ (by simp)]; exact y2
  have k8 := k7.trans (IntsKept.set (y := e.q) y2' (fun x e => by rw [z2] at e; cases e))
  have kR : IntsKept w5 (((w5.setCell ⟨gc, k * 3, none⟩ e.x).setCell ⟨gc, k * 3 + 1, none⟩ e.y).setCell ⟨gc, k * 3 + 2, none⟩ e.q) := ((IntsKept.set (y := e.x) y0 (fun x e => by rw [z0] at e; cases e)).trans (IntsKept.set (y := e.y) y1' (fun x e => by rw [z1] at e; cases e))).trans (IntsKept.set (y := e.q) y2' (fun x e => by rw [z2] at e; cases e))
  have hcell : ∀ (b j : Nat), b ≠ gc → (((w5.setCell ⟨gc, k * 3, none⟩ e.x).setCell ⟨gc, k * 3 + 1, none⟩ e.y).setCell ⟨gc, k * 3 + 2, none⟩ e.q).cell? ⟨b, j, none⟩ = w5.cell? ⟨b, j, none⟩ := fun b j hb => by
    rw [World.cell?_setCell_far _ _ _ _ (Ne.symm hb), World.cell?_setCell_far _ _ _ _ (Ne.symm hb), World.cell?_setCell_far _ _ _ _ (Ne.symm hb)]
  have hgb : base ≤ gc := by
    rcases h5.C.2 with ⟨h, _⟩ | ⟨g, cap, cur, h, hb, _⟩
    · cases h
    · have : gc = g := by injection h with h; injection h with h; injection h
      omega
  have hpr : primes (L.set k e) = primes L := by
    unfold primes
    refine List.ext_getElem (by simp) fun i h1 h2 => ?_
    simp only [List.getElem_map, List.getElem_set]
    split
    · rename_i he; subst he; exact hp
    · rfl
  refine ⟨⟨hBb, ?_, ?_, ?_, ?_, ?_, ?_, ?_, ?_⟩, k8, ⟨?_, ?_⟩, ?_⟩
  · rw [hcell _ _ (Ne.symm hgB)]; exact h5.cp
  · rw [hcell _ _ (Ne.symm hgB)]; exact h5.cc
  · rw [World.frozen?_setCell, World.frozen?_setCell, World.frozen?_setCell]; exact h5.f0
  · rw [World.frozen?_setCell, World.frozen?_setCell, World.frozen?_setCell]; exact h5.f1
  · rw [hpr, List.length_set]
    have hne : ∀ v : Value, v = .slice (some ⟨gp, 0, none⟩) L.length capp → v.ownBlock = none ∨ v.ownBlock ≠ some gc := fun v hv => by rw [hv]; exact Or.inr (by simp [Value.ownBlock]; exact hgp)
    exact ((h5.P.kept g1 (hne _ rfl)).kept g2 (hne _ rfl)).kept g3 (hne _ rfl)
  · rw [List.length_set]; exact t3
  · intro a ha
    rcases List.mem_or_eq_of_mem_set ha with ha | rfl
    · exact (h.R a ha).kept k8
    · exact hR.kept kR
  · intro h0
    have := congrArg List.length h0
    rw [List.length_set, List.length_nil] at this
    omega
  · have := hb5.size
    simp; omega
  · intro j hj hm
    have hjg : j ≠ gc := fun e => hm (Or.inr ⟨_, _, by rw [e]; exact h.cc⟩)
    refine ⟨?_, fun h' => hm ?_⟩
    · rw [heap_setCell_other _ ⟨gc, _, none⟩ j _ hjg, heap_setCell_other _ ⟨gc, _, none⟩ j _ hjg, heap_setCell_other _ ⟨gc, _, none⟩ j _ hjg, hb5.block j hj]
    · rcases h' with h' | ⟨n', cap', h'⟩
      · exact Or.inl h'
      · rw [hcell _ _ (Ne.symm hgB), h5.cc, ← h.cc] at h'
        exact Or.inr ⟨_, _, h'⟩
  · exact (((hb5.mono (by have := h.lt; omega)).setCell hgb _).setCell hgb _).setCell hgb _
theorem put_at {L : List Ent} {k p : Nat} {x y q : Value} {z : Int} (hr : Rising (absL L)) (hk : k < L.length) (hp : (primes L).getD k 0 = p) : Put (absL L) (absL (L.set k ⟨p, x, y, q, (L[k]).z + z⟩)) p z := by
  have e1 : L = L.take k ++ L[k] :: L.drop (k + 1) := by
    rw [← List.drop_eq_getElem_cons hk, List.take_append_drop]
  have e2 : L.set k ⟨p, x, y, q, (L[k]).z + z⟩ = L.take k ++ ⟨p, x, y, q, (L[k]).z + z⟩ :: L.drop (k + 1) := List.set_eq_take_append_cons_drop.trans (by rw [if_pos hk])
  have hpk : (L[k]).p = p := by rw [← primes_at hk]; exact hp
  have e3 : absL L = absL (L.take k) ++ ((p : Int), (L[k]).z) :: absL (L.drop (k + 1)) := by
    conv => lhs; rw [e1]
    rw [absL_join, ← hpk]
    rfl
  rw [e2, absL_join]
  rw [e3] at hr ⊢
  exact put_found hr
end Go.Proofs.YtklhfagcembigaaGreatDoor

/- (*Wide).Prime. -/
namespace Go.Proofs.YtklhfagcembigaaGreatDoor
open Go.RowKit

theorem Tryz.infoRatio : (Tryz.prog.info? 57).map (fun i => (i.zero, i.size, i.bytes)) = some (some (.agg #[.bool false, .slice none 0 0, .slice none 0 0]), 3, 56) := by kernel_rfl
theorem dig_one (l : List Nat) : ∀ u ∈ digCells l, u.oneCell' = true := fun u hu => by
  unfold digCells at hu
  obtain ⟨d, _, rfl⟩ := List.mem_map.1 hu
  rfl

set_option maxRecDepth 100000 in
set_option maxHeartbeats 2000000 in
theorem Prime_more (base M B p : Nat) (z : Int) (cv : Value) (gp gc capp capc : Nat) (L : List Ent) (k0 : Nat) (w : World) (hW : WideAt base M w B (.slice (some ⟨gp, 0, none⟩) L.length capp) (.slice (some ⟨gc, 0, none⟩) L.length capc) L) (hc : RatioAt w cv (lowN M z) (lowD M z)) (hM : 0 < M) (hr : Rising (absL L)) (hL : 0 < L.length) (hlen : L.length ≤ 100000) (hbz : z.natAbs < 1000000 ^ k0) (hbL : ∀ e ∈ L, e.z.natAbs < 1000000 ^ k0) (hbM : M < 1000000 ^ k0) (hk0 : k0 ≤ 1000) :
    Calls Tryz.prog 61 #[.pointer (some ⟨B, 0, none⟩), .int .i64 p, cv] w fun e w' => e = .returned (.tuple #[]) ∧ ∃ vp' vc' L', WideAt base M w' B vp' vc' L' ∧ Put (absL L) (absL L') p z ∧ IntsKept w w' ∧ Moved B w w' ∧ Below base w w' := by
  obtain ⟨s, ad, l, cap, ad', l', cap', rfl⟩ := hc.parts
  have hb0 : Below w.heap.size w (w.alloc (.cells #[.bool s, .slice ad l cap, .slice ad' l' cap'] 57)) := new_below _ _
  have c0 := (hW.later hb0).cp
  have c1 := (hW.later hb0).cc
  have hrow : ∀ i, i < L.length → (w.alloc (.cells #[.bool s, .slice ad l cap, .slice ad' l' cap'] 57)).cell? ⟨gp, i, none⟩ = some (.int .i64 (((primes L).getD i 0 : Nat) : Int)) := fun i hi => by
    have h1 := (hW.later hb0).P.cellAt i (by omega)
    rw [h1, digCells_get (by unfold primes; simpa using hi)]
  obtain ⟨i0, hi, hz0, hz1, hz2⟩ := info_parts Tryz.infoInt
  have HINF : Hid (Tryz.prog.info? 3 = some i0 ∧ i0.zero = some (.int .i64 0) ∧ i0.size = 1 ∧ i0.bytes = 8) := ⟨hi, hz0, hz1, hz2⟩
  clear hi hz0 hz1 hz2
  obtain ⟨i3, hi, hz0, hz1, hz2⟩ := info_parts Tryz.infoRatio
  have HINR : Hid (Tryz.prog.info? 57 = some i3 ∧ i3.zero = some (.agg #[.bool false, .slice none 0 0, .slice none 0 0]) ∧ i3.size = 3 ∧ i3.bytes = 56) := ⟨hi, hz0, hz1, hz2⟩
  clear hi hz0 hz1 hz2
  have HROW := Hid.mk' hrow
  have HW := Hid.mk' hW
  have HBL := Hid.mk' hbL
  have HC := Hid.mk' hc
  have HR := Hid.mk' hr
  clear hW hc hr hrow hb0 hbL
  go_enter Tryz.func61, Tryz.ntmps61
  obtain ⟨W1, hW1⟩ : ∃ W1, W1 = w.alloc (.cells #[.bool s, .slice ad l cap, .slice ad' l' cap'] 57) := ⟨_, rfl⟩
  rw [← hW1] at c0 c1 HROW
  have HW1 := Hid.mk' hW1
  clear hW1
  go_upto_block 0 with fail
  rw [← HW1.out]
  go_cut [6] from 9 (fun t wx => ∃ k : Nat, t = .int .i64 k ∧ k ≤ L.length ∧ Hid (∀ i, i < k → (primes L).getD i 0 < p) ∧ Hid (k < L.length → p ≤ (primes L).getD k 0) ∧ wx = W1)
  case first =>
    go_wp2_with fail
    go_loopw [6] (fun t wr => ∃ k : Nat, t = .int .i64 k ∧ k ≤ L.length ∧ Hid (∀ i, i < k → (primes L).getD i 0 < p) ∧ wr = W1) (fun t _ => L.length - (intOf t).toNat)
    case atStart => exact ⟨0, rfl, by omega, Hid.mk' (fun i hi => absurd hi (by omega)), rfl⟩
    case round =>
      obtain ⟨k, rfl, hk, HLT, rfl⟩ := hrel
      by_cases hkn : k < L.length
      · have hck := HROW.out k hkn
        obtain ⟨q, hq⟩ : ∃ q, (primes L).getD k 0 = q := ⟨_, rfl⟩
        rw [hq] at hck
        have HQ := Hid.mk' hq
        clear hq
        have hkI : (k : Int) < (L.length : Int) := by omega
        have hk0 : (0 : Int) ≤ (k : Int) := by omega
        by_cases hqp : q < p
        · have hqI : (q : Int) < (p : Int) := by omega
          go_wp2_with fail
          go_roundw
          case measure => simp [intOf]; omega
          case rel =>
            refine ⟨k + 1, by simp, by omega, Hid.mk' (fun i hi => ?_), by simp⟩
            rcases Nat.lt_or_ge i k with h | h
            · exact HLT.out i h
            · obtain rfl : i = k := by omega
              rw [HQ.out]; exact hqp
        · have hqI : ¬ (q : Int) < (p : Int) := by omega
          go_wp2_with fail
          go_meet
          exact ⟨k, rfl, hk, HLT, Hid.mk' (fun _ => by rw [HQ.out]; omega), rfl⟩
      · have hkI : ¬ (k : Int) < (L.length : Int) := by omega
        go_wp2_with fail
        go_meet
        exact ⟨k, rfl, hk, HLT, Hid.mk' (fun h => absurd h hkn), rfl⟩
  case rest =>
    obtain ⟨k, rfl, hk, HLT, HGE, hwc⟩ := hcut
    rw [hwc]
    clear hwc
    go_upto_region 4 with fail
    go_cut [46] from 29 (fun t wx => ∃ b : Bool, t = .bool b ∧ Hid (b = true ↔ (k < L.length ∧ (primes L).getD k 0 = p)) ∧ wx = W1)
    case first =>
      by_cases hkn : k < L.length
      · have hck := HROW.out k hkn
        obtain ⟨q, hq⟩ : ∃ q, (primes L).getD k 0 = q := ⟨_, rfl⟩
        rw [hq] at hck
        have HQ := Hid.mk' hq
        clear hq
        have hkI : (k : Int) < (L.length : Int) := by omega
        have hk0 : (0 : Int) ≤ (k : Int) := by omega
        by_cases hqp : q = p
        · have hqI : (q : Int) = (p : Int) := by omega
          go_wp2_with fail
          go_meet
          exact ⟨true, rfl, Hid.mk' ⟨fun _ => ⟨hkn, by rw [HQ.out]; exact hqp⟩, fun _ => rfl⟩, rfl⟩
        · have hqI : ¬ (q : Int) = (p : Int) := by omega
          go_wp2_with fail
          go_meet
          exact ⟨false, by simp; omega, Hid.mk' ⟨(fun h => absurd h (by decide)), (fun h => absurd (HQ.out.symm.trans h.2) hqp)⟩, rfl⟩
      · have hkI : ¬ (k : Int) < (L.length : Int) := by omega
        go_wp2_with fail
        go_meet
        exact ⟨false, rfl, Hid.mk' ⟨(fun h => absurd h (by decide)), (fun h => absurd h.1 hkn)⟩, rfl⟩
    case rest =>
      obtain ⟨bf, rfl, HF, hwc⟩ := hcut
      rw [hwc]
      clear hwc
      cases bf
      · have hkI : (k : Int) ≤ (L.length : Int) := by omega
        have hk0 : (0 : Int) ≤ (k : Int) := by omega
        have HWA : Hid (WideAt base M W1 B (.slice (some ⟨gp, 0, none⟩) L.length capp) (.slice (some ⟨gc, 0, none⟩) L.length capc) L) := by
          rw [HW1.out]; exact HW.out.later (new_below _ _)
        have hcapp : L.length ≤ capp := by
          rcases HWA.out.P.2 with ⟨h, _⟩ | ⟨g, c, cur, h, _, _, hle, _⟩
          · cases h
          · have : capp = c := by injection h
            omega
        have hcapc : L.length ≤ capc := by
          rcases HWA.out.C.2 with ⟨h, _⟩ | ⟨g, c, cur, h, _, _, hle, _⟩
          · cases h
          · have : capc = c := by injection h
            omega
        have hcpI : (L.length : Int) ≤ (capp : Int) := by omega
        have hccI : (L.length : Int) ≤ (capc : Int) := by omega
        have hlp : (primes L).length = L.length := by unfold primes; simp
        have hdc : (digCells ((primes L).take k)).length = k * 1 := by rw [digCells_length, List.length_take]; omega
        have hdd : (digCells ((primes L).drop k)).length = (L.length - k) * 1 := by rw [digCells_length, List.length_drop]; omega
        have HDC := Hid.mk' hdc
        have HDD := Hid.mk' hdd
        have HS1 : Hid (∀ j u, (digCells ((primes L).take k))[j]? = some u → ∃ a', some (⟨gp, 0, none⟩ : Addr) = some a' ∧ W1.cell? (a'.add j) = some u) := by
          have h1 := HWA.out.P
          rw [dig_cut _ k] at h1
          exact src_left h1
        have HS3 : Hid (∀ W, Below W1.heap.size W1 W → ∀ j u, (digCells ((primes L).drop k))[j]? = some u → ∃ a', (if capp = k then some (⟨gp, 0, none⟩ : Addr) else some ⟨gp, k, none⟩) = some a' ∧ W.cell? (a'.add j) = some u) := fun W hb => by
          have h1 := (HWA.out.later hb).P
          rw [dig_cut _ k] at h1
          exact src_right_if h1 (by omega) (fun h => List.length_eq_zero_iff.1 (by rw [hdd]; omega))
        have HF3 : Hid ((flat3 (L.take k)).length = k * 3 ∧ (flat3 (L.drop k)).length = (L.length - k) * 3) := ⟨by rw [flat3_length, List.length_take]; omega, by rw [flat3_length, List.length_drop]⟩
        have HONE : Hid ((∀ u ∈ flat3 (L.take k), u.oneCell' = true) ∧ ∀ u ∈ flat3 (L.drop k), u.oneCell' = true) := by
          have h1 := HWA.out.no_ints
          rw [flat3_take L k] at h1
          exact ⟨fun u hu => (h1 u (List.mem_append_left _ hu)).2, fun u hu => (h1 u (List.mem_append_right _ hu)).2⟩
        have HROWC : Hid (∀ W : World, W.ownsRow base 57 3 (.slice (some ⟨gc, 0, none⟩) L.length capc) L.length (flat3 L) → (∀ j u, (flat3 (L.take k))[j]? = some u → ∃ a', some (⟨gc, 0, none⟩ : Addr) = some a' ∧ W.cell? (a'.add j) = some u) ∧ ∀ j u, (flat3 (L.drop k))[j]? = some u → ∃ a', (if capc = k then some (⟨gc, 0, none⟩ : Addr) else some ⟨gc, k * 3, none⟩) = some a' ∧ W.cell? (a'.add j) = some u) := fun W h1 => by
          rw [flat3_take L k] at h1
          exact ⟨src_left h1, src_right_if h1 HF3.out.1 (fun h => List.length_eq_zero_iff.1 (by rw [HF3.out.2]; omega))⟩
        clear hlp hdc hdd
        go_upto_region 10 with (at_builtin; go_must (first
          | (refine wpList_append_src _ rfl _ _ _ rfl W1.heap.size 3 i0 _ 1 8 Tryz.underlying22 HINF.out.1 HINF.out.2.1 HINF.out.2.2.1 HINF.out.2.2.2 rfl (by omega) (.slice ad2 (k + 1) c2) (k + 1) (digCells ((primes L).take k) ++ [.int .i64 (p : Int)]) rfl HO3.out (if capp = k then some ⟨gp, 0, none⟩ else some ⟨gp, k, none⟩) (L.length - k) (capp - k) (digCells ((primes L).drop k)) rfl HDD.out (HS3.out _ HB3.out) (dig_one _) (by unfold maxLen; omega) (by omega) HB3.out.size (L.length + 1) (by omega) ?_; intro ad3 c3 w4 hown4 hg4; have HO4 := Hid.mk' hown4; have HB4 := Hid.mk' (HB3.out.grown hg4 HB3.out.size (fun k h => (HO3.out.lt k h).1)); have c0 := (HWA.out.later HB4.out).cp; have f0 := (HWA.out.later HB4.out).f0; clear hown4 hg4 HO3 HB3)
          | (refine wpList_append_src _ rfl _ _ _ rfl W1.heap.size 3 i0 _ 1 8 Tryz.underlying22 HINF.out.1 HINF.out.2.1 HINF.out.2.2.1 HINF.out.2.2.2 rfl (by omega) (.slice ad1 k cp1) k (digCells ((primes L).take k)) rfl (HO2.out.alloc _) (some ⟨w2.heap.size, 0, none⟩) 1 1 [.int .i64 (p : Int)] rfl rfl (src_new _ _ _) (fun u hu => by simp at hu; subst hu; rfl) (by unfold maxLen; omega) (by omega) (Nat.le_trans HB2.out.size (by simp)) (k + 1) rfl ?_; intro ad2 c2 w3 hown3 hg3; have HO3 := Hid.mk' hown3; have HB3 := Hid.mk' (below_push HB2.out HO2.out hg3); have c0 := (HWA.out.later HB3.out).cp; clear hown3 hg3 HO2 HB2)
          | (refine wpList_append_src _ rfl _ _ _ rfl W1.heap.size 3 i0 _ 1 8 Tryz.underlying22 HINF.out.1 HINF.out.2.1 HINF.out.2.2.1 HINF.out.2.2.2 rfl (by omega) (.slice none 0 0) 0 [] rfl (World.ownsRow_nil _ _ _ _) (some ⟨gp, 0, none⟩) k capp (digCells ((primes L).take k)) rfl HDC.out HS1.out (dig_one _) (by unfold maxLen; omega) (by omega) (Nat.le_refl _) k (by omega) ?_; intro ad1 cp1 w2 hown2 hg2; have HO2 : Hid (w2.ownsRow W1.heap.size 3 1 (.slice ad1 k cp1) k (digCells ((primes L).take k))) := hown2; have HB2 := Hid.mk' ((Below.refl W1.heap.size W1).grown hg2 (Nat.le_refl _) (fun k h => by cases h)); clear hown2 hg2)))
        have HP4 : Hid (w4.ownsRow W1.heap.size 3 1 (.slice ad3 (L.length + 1) c3) (L.length + 1) (digCells (primes (L.take k)) ++ [.int .i64 (p : Int)] ++ digCells (primes (L.drop k)))) := by
          have h1 := HO4.out
          have e1 : (primes L).take k = primes (L.take k) := by unfold primes; rw [List.map_take]
          have e2 : (primes L).drop k = primes (L.drop k) := by unfold primes; rw [List.map_drop]
          rw [e1, e2] at h1
          exact h1
        obtain ⟨W2, hW2⟩ : ∃ W2, W2 = w4.setCell ⟨B, 0, none⟩ (.slice ad3 (L.length + 1) c3) := ⟨_, rfl⟩
        have hwB : w.heap.size ≠ B := by have := HW.out.lt; omega
        have hbx : w4.cell? ⟨w.heap.size, 0, none⟩ = some (.bool s) ∧ w4.cell? ⟨w.heap.size, 1, none⟩ = some (.slice ad l cap) ∧ w4.cell? ⟨w.heap.size, 2, none⟩ = some (.slice ad' l' cap') := by
          have h1 := HB4.out
          rw [HW1.out] at h1
          exact three_new_past h1
        have HKC : Hid (∀ W, Below W2.heap.size W2 W → W.cell? ⟨B, 1, none⟩ = some (.slice (some ⟨gc, 0, none⟩) L.length capc) ∧ W.frozen? ⟨B, 1, none⟩ = false ∧ (W.cell? ⟨w.heap.size, 0, none⟩ = some (.bool s) ∧ W.cell? ⟨w.heap.size, 1, none⟩ = some (.slice ad l cap) ∧ W.cell? ⟨w.heap.size, 2, none⟩ = some (.slice ad' l' cap')) ∧ W.ownsRow base 57 3 (.slice (some ⟨gc, 0, none⟩) L.length capc) L.length (flat3 L)) := fun W hb => by
          have h4 := HWA.out.later HB4.out
          have q1 : W2.cell? ⟨B, 1, none⟩ = some (.slice (some ⟨gc, 0, none⟩) L.length capc) := by rw [hW2]; exact (cell_set0 h4.cp h4.cc).2
          have q2 : W2.frozen? ⟨B, 1, none⟩ = false := by rw [hW2, World.frozen?_setCell]; exact h4.f1
          have hgB : gc ≠ B := fun e => by
            have h5 := h4.C.cellAt 0 (by omega)
            have h6 := h4.cp
            rw [e, h6] at h5
            obtain ⟨e0, he0⟩ : ∃ e0, L[0]? = some e0 := ⟨_, List.getElem?_eq_getElem hL⟩
            have h7 := (flat3_at L 0 e0 he0).1
            obtain ⟨s', _, _, _, _, _, _, h8, _⟩ := Ent.parts (h4.R e0 (List.mem_of_getElem? he0))
            rw [Nat.zero_mul] at h7
            rw [h7, h8] at h5
            cases h5
          have q3 : W2.ownsRow base 57 3 (.slice (some ⟨gc, 0, none⟩) L.length capc) L.length (flat3 L) := by
            rw [hW2]
            exact h4.C.kept (grownBy_set _ _ _) (Or.inr (by simp [Value.ownBlock]; exact hgB))
          have q4 : ∀ j v, w4.cell? ⟨w.heap.size, j, none⟩ = some v → W2.cell? ⟨w.heap.size, j, none⟩ = some v := fun j v h => by
            rw [hW2, World.cell?_setCell_far _ _ _ _ (Ne.symm hwB)]; exact h
          exact ⟨(cell_past q1 hb).2, (frozen_past q1 q2 hb).2, ⟨(cell_past (q4 _ _ hbx.1) hb).2, (cell_past (q4 _ _ hbx.2.1) hb).2, (cell_past (q4 _ _ hbx.2.2) hb).2⟩, ownsRow_past q3 hb⟩
        rw [← hW2]
        have HW2 := Hid.mk' hW2
        clear hW2 hbx c0 f0 c1 HO4 HS1 HS3 HDC HDD
        obtain ⟨c1, _, ⟨b0, b1, b2⟩, hrc⟩ := HKC.out W2 (Below.refl _ _)
        have HRC := Hid.mk' (HROWC.out _ hrc)
        clear hrc
        go_wp2_with (at_builtin; go_must (first
          | (refine wpList_append_src _ rfl _ _ _ rfl W2.heap.size 57 i3 _ 3 56 Tryz.underlying60 HINR.out.1 HINR.out.2.1 HINR.out.2.2.1 HINR.out.2.2.2 rfl (by omega) (.slice ad5 (k + 1) c5) (k + 1) (flat3 (L.take k) ++ [.bool s, .slice ad l cap, .slice ad' l' cap']) rfl HO6.out (if capc = k then some ⟨gc, 0, none⟩ else some ⟨gc, k * 3, none⟩) (L.length - k) (capc - k) (flat3 (L.drop k)) rfl HF3.out.2 HRC6.out.2 HONE.out.2 (by unfold maxLen; omega) (by omega) HB6.out.size (L.length + 1) (by omega) ?_; intro ad6 c6 w7 hown7 hg7; have HO7 := Hid.mk' hown7; have HB7 := Hid.mk' (HB6.out.grown hg7 HB6.out.size (fun k h => (HO6.out.lt k h).1)); obtain ⟨c1, f1, _, _⟩ := HKC.out _ HB7.out; clear hown7 hg7 HO6 HB6)
          | (refine wpList_append_src _ rfl _ _ _ rfl W2.heap.size 57 i3 _ 3 56 Tryz.underlying60 HINR.out.1 HINR.out.2.1 HINR.out.2.2.1 HINR.out.2.2.2 rfl (by omega) (.slice ad4 k c4) k (flat3 (L.take k)) rfl (HO5.out.alloc _) (some ⟨w5.heap.size, 0, none⟩) 1 1 [.bool s, .slice ad l cap, .slice ad' l' cap'] rfl rfl (src_new _ _ _) (fun u hu => by simp at hu; rcases hu with rfl | rfl | rfl <;> rfl) (by unfold maxLen; omega) (by omega) (Nat.le_trans HB5.out.size (by simp)) (k + 1) rfl ?_; intro ad5 c5 w6 hown6 hg6; have HO6 := Hid.mk' hown6; have HB6 := Hid.mk' (below_push HB5.out HO5.out hg6); obtain ⟨c1, _, _, hrc⟩ := HKC.out _ HB6.out; have HRC6 := Hid.mk' (HROWC.out _ hrc); clear hrc hown6 hg6 HO5 HB5)
          | (refine wpList_append_src _ rfl _ _ _ rfl W2.heap.size 57 i3 _ 3 56 Tryz.underlying60 HINR.out.1 HINR.out.2.1 HINR.out.2.2.1 HINR.out.2.2.2 rfl (by omega) (.slice none 0 0) 0 [] rfl (World.ownsRow_nil _ _ _ _) (some ⟨gc, 0, none⟩) k capc (flat3 (L.take k)) rfl HF3.out.1 HRC.out.1 HONE.out.1 (by unfold maxLen; omega) (by omega) (Nat.le_refl _) k (by omega) ?_; intro ad4 c4 w5 hown5 hg5; have HO5 : Hid (w5.ownsRow W2.heap.size 57 3 (.slice ad4 k c4) k (flat3 (L.take k))) := hown5; have HB5 := Hid.mk' ((Below.refl W2.heap.size W2).grown hg5 (Nat.le_refl _) (fun k h => by cases h)); obtain ⟨_, _, ⟨b0, b1, b2⟩, _⟩ := HKC.out _ HB5.out; clear hown5 hg5)))
        all_goals
          obtain ⟨x1, x2, x3, x4⟩ := wide_insert (e := ⟨p, .bool s, .slice ad l cap, .slice ad' l' cap', z⟩) HWA.out HB4.out HP4.out HW2.out HB7.out HO7.out (by rw [HW1.out]; exact HC.out.later (new_below _ _))
          have hWb : Below w.heap.size w W1 := by rw [HW1.out]; exact new_below _ _
          go_end0
          refine ⟨rfl, _, _, _, x1, ?_, (IntsKept.of_below hWb).trans x2, (Moved.of_below hWb HW.out.lt).trans x3, (hWb.mono (by have := HW.out.hB; have := HW.out.lt; omega)).trans x4⟩
          exact put_between HR.out HLT.out HGE.out HF.out
      · obtain ⟨hkn, hkp⟩ := HF.out.1 rfl
        have hkI : (k : Int) < (L.length : Int) := by omega
        have hk0 : (0 : Int) ≤ (k : Int) := by omega
        have HWA : Hid (WideAt base M W1 B (.slice (some ⟨gp, 0, none⟩) L.length capp) (.slice (some ⟨gc, 0, none⟩) L.length capc) L) := by
          rw [HW1.out]; exact HW.out.later (new_below _ _)
        obtain ⟨f, hf⟩ : ∃ f, L[k]? = some f := ⟨_, List.getElem?_eq_getElem hkn⟩
        have hfk : L[k] = f := by rw [List.getElem?_eq_getElem hkn] at hf; exact Option.some.inj hf
        have hmem : f ∈ L := List.mem_of_getElem? hf
        obtain ⟨fs, fa, fl, fc, fa', fl', fc', q0, q1, q2⟩ := Ent.parts (HWA.out.R f hmem)
        have HKS : Hid (∀ W, Below W1.heap.size W1 W → (W.cell? ⟨B, 1, none⟩ = some (.slice (some ⟨gc, 0, none⟩) L.length capc)) ∧ (W.cell? ⟨gc, k * 3, none⟩ = some (.bool fs) ∧ W.cell? ⟨gc, k * 3 + 1, none⟩ = some (.slice fa fl fc) ∧ W.cell? ⟨gc, k * 3 + 2, none⟩ = some (.slice fa' fl' fc')) ∧ (W.cell? ⟨w.heap.size, 0, none⟩ = some (.bool s) ∧ W.cell? ⟨w.heap.size, 1, none⟩ = some (.slice ad l cap) ∧ W.cell? ⟨w.heap.size, 2, none⟩ = some (.slice ad' l' cap')) ∧ (W.frozen? ⟨gc, k * 3, none⟩ = false ∧ W.frozen? ⟨gc, k * 3 + 1, none⟩ = false ∧ W.frozen? ⟨gc, k * 3 + 2, none⟩ = false)) := fun W hb => by
          have h5 := HWA.out.later hb
          obtain ⟨x0, x1, x2⟩ := flat3_at L k f hf
          have hbx := hb
          rw [HW1.out] at hbx
          exact ⟨h5.cc, ⟨by rw [h5.C.cellAt _ (by omega), x0, q0], by rw [h5.C.cellAt _ (by omega), x1, q1], by rw [h5.C.cellAt _ (by omega), x2, q2]⟩, three_new_past hbx, h5.C.frozenAt _, h5.C.frozenAt _, h5.C.frozenAt _⟩
        have HR1 : Hid (RatioAt W1 (.agg #[.bool fs, .slice fa fl fc, .slice fa' fl' fc']) (lowN M f.z) (lowD M f.z)) := by
          have h1 := HWA.out.R f hmem
          unfold Ent.val at h1
          rw [q0, q1, q2] at h1
          exact h1
        have HR2 : Hid (RatioAt W1 (.agg #[.bool s, .slice ad l cap, .slice ad' l' cap']) (lowN M z) (lowD M z)) := by rw [HW1.out]; exact HC.out.later (new_below _ _)
        have HPL := Hid.mk' (fun (W : World) (hb : Below W1.heap.size W1 W) => Plus_ratio _ _ (lowN M f.z) (lowN M z) (lowD M f.z) (lowD M z) k0 W (HR1.out.later hb) (HR2.out.later hb) (lowD_pos hM _) (lowD_pos hM _) (Nat.lt_of_le_of_lt (lowN_le hM _) (HBL.out f hmem)) (Nat.lt_of_le_of_lt (lowN_le hM _) hbz) (Nat.lt_of_le_of_lt (lowD_le _ _) hbM) (Nat.lt_of_le_of_lt (lowD_le _ _) hbM) (by omega))
        have hcur : Below W1.heap.size W1 W1.drew := (Below.refl _ _).drew
        have hcur0 : Below W1.heap.size W1 W1 := Below.refl _ _
        obtain ⟨_, ⟨a0, a1, a2⟩, ⟨b0, b1, b2⟩, _⟩ := HKS.out W1 hcur0
        have HKA : Hid (∀ (W : World) (x y q : Value), Below W1.heap.size W1 W → (((W.setCell ⟨gc, k * 3, none⟩ x).setCell ⟨gc, k * 3 + 1, none⟩ y).setCell ⟨gc, k * 3 + 2, none⟩ q).cell? ⟨B, 1, none⟩ = some (.slice (some ⟨gc, 0, none⟩) L.length capc)) := fun W x y q hb => by
          have hgB := ((HWA.out.later hb).apart hL).1
          rw [World.cell?_setCell_far _ _ _ _ hgB, World.cell?_setCell_far _ _ _ _ hgB, World.cell?_setCell_far _ _ _ _ hgB]
          exact (HKS.out _ hb).1
        have HKP := Hid.mk' hkp
        have HFK := Hid.mk' hfk
        clear hf hmem q0 q1 q2 HR1 HR2 hkp hfk
        go_wp2_with fail
        go_region_with (first | (go_at_call 59; refine (HPL.out _ hcur).mono ?_; rintro e w5 ⟨r, rfl, hr5, hb5⟩; obtain ⟨rs, ra, rl, rc, ra', rl', rc', rfl⟩ := hr5.parts; have hc5 := below_chain hcur hb5; have HR5 := Hid.mk' hr5; obtain ⟨c5, _, _, v0, v1, v2⟩ := HKS.out _ hc5; clear hr5 hb5))
        all_goals
          go_wp2_with fail
          refine bodyPost_ret (results_none Tryz.results61 _ _ _) rfl ?_
          have hlow := low_plus hM f.z z
          have hr5 := HR5.out
          rw [hlow.1, hlow.2] at hr5
          obtain ⟨x1, x2, x3, x4⟩ := wide_store (e := ⟨p, .bool rs, .slice ra rl rc, .slice ra' rl' rc', f.z + z⟩) HWA.out hkn hc5 (by rw [← primes_at hkn]; exact HKP.out.symm) hr5
          have hWb : Below w.heap.size w W1 := by rw [HW1.out]; exact new_below _ _
          refine ⟨rfl, _, _, _, x1, ?_, (IntsKept.of_below hWb).trans x2, (Moved.of_below hWb HW.out.lt).trans x3, (hWb.mono (by have := HW.out.hB; have := HW.out.lt; omega)).trans x4⟩
          have := put_at (x := .bool rs) (y := .slice ra rl rc) (q := .slice ra' rl' rc') (z := z) HR.out hkn HKP.out
          rw [HFK.out] at this
          exact this
end Go.Proofs.YtklhfagcembigaaGreatDoor

/- (*Wide).Prime in general. -/
namespace Go.Proofs.YtklhfagcembigaaGreatDoor
open Go.RowKit

set_option maxRecDepth 100000 in
set_option maxHeartbeats 2000000 in
theorem Prime_none (base M B p : Nat) (z : Int) (cv : Value) (w : World) (hW : WideAt base M w B (.slice none 0 0) (.slice none 0 0) []) (hc : RatioAt w cv (lowN M z) (lowD M z)) :
    Calls Tryz.prog 61 #[.pointer (some ⟨B, 0, none⟩), .int .i64 p, cv] w fun e w' => e = .returned (.tuple #[]) ∧ ∃ vp' vc' L', WideAt base M w' B vp' vc' L' ∧ Put (absL []) (absL L') p z ∧ IntsKept w w' ∧ Moved B w w' ∧ Below base w w' := by
  obtain ⟨s, ad, l, cap, ad', l', cap', rfl⟩ := hc.parts
  have hb0 : Below w.heap.size w (w.alloc (.cells #[.bool s, .slice ad l cap, .slice ad' l' cap'] 57)) := new_below _ _
  have c0 := (hW.later hb0).cp
  have c1 := (hW.later hb0).cc
  obtain ⟨i0, hi, hz0, hz1, hz2⟩ := info_parts Tryz.infoInt
  have HINF : Hid (Tryz.prog.info? 3 = some i0 ∧ i0.zero = some (.int .i64 0) ∧ i0.size = 1 ∧ i0.bytes = 8) := ⟨hi, hz0, hz1, hz2⟩
  clear hi hz0 hz1 hz2
  obtain ⟨i3, hi, hz0, hz1, hz2⟩ := info_parts Tryz.infoRatio
  have HINR : Hid (Tryz.prog.info? 57 = some i3 ∧ i3.zero = some (.agg #[.bool false, .slice none 0 0, .slice none 0 0]) ∧ i3.size = 3 ∧ i3.bytes = 56) := ⟨hi, hz0, hz1, hz2⟩
  clear hi hz0 hz1 hz2
  have HW := Hid.mk' hW
  have HC := Hid.mk' hc
  have HWA0 := Hid.mk' (hW.later hb0)
  clear hW hc hb0
  go_enter Tryz.func61, Tryz.ntmps61
  obtain ⟨W1, hW1⟩ : ∃ W1, W1 = w.alloc (.cells #[.bool s, .slice ad l cap, .slice ad' l' cap'] 57) := ⟨_, rfl⟩
  rw [← hW1] at c0 c1 HWA0
  have HWA := HWA0
  have HW1 := Hid.mk' hW1
  clear hW1 HWA0
  go_upto_block 0 with fail
  rw [← HW1.out]
  go_wp2_with fail
  refine wp_loop_rounds 1 ?_
  rw [rounds_succ]
  go_upto_region 10 with (at_builtin; go_must (first
    | (refine wpList_append_src _ rfl _ _ _ rfl W1.heap.size 3 i0 _ 1 8 Tryz.underlying22 HINF.out.1 HINF.out.2.1 HINF.out.2.2.1 HINF.out.2.2.2 rfl (by omega) (.slice ad2 1 c2) 1 [.int .i64 (p : Int)] rfl HO3.out none 0 0 [] rfl rfl (fun j u h => by simp at h) (fun u h => by simp at h) (by unfold maxLen; omega) (by omega) HB3.out.size 1 rfl ?_; intro ad3 c3 w4 hown4 hg4; have HO4 := Hid.mk' hown4; have HB4 := Hid.mk' (HB3.out.grown hg4 HB3.out.size (fun k h => (HO3.out.lt k h).1)); have c0 := (HWA.out.later HB4.out).cp; have f0 := (HWA.out.later HB4.out).f0; clear hown4 hg4 HO3 HB3)
    | (refine wpList_append_src _ rfl _ _ _ rfl W1.heap.size 3 i0 _ 1 8 Tryz.underlying22 HINF.out.1 HINF.out.2.1 HINF.out.2.2.1 HINF.out.2.2.2 rfl (by omega) (.slice ad1 0 cp1) 0 [] rfl (HO2.out.alloc _) (some ⟨w2.heap.size, 0, none⟩) 1 1 [.int .i64 (p : Int)] rfl rfl (src_new _ _ _) (fun u hu => by simp at hu; subst hu; rfl) (by unfold maxLen; omega) (by omega) (Nat.le_trans HB2.out.size (by simp)) 1 rfl ?_; intro ad2 c2 w3 hown3 hg3; have HO3 : Hid (w3.ownsRow W1.heap.size 3 1 (.slice ad2 1 c2) 1 [.int .i64 (p : Int)]) := hown3; have HB3 := Hid.mk' (below_push HB2.out HO2.out hg3); have c0 := (HWA.out.later HB3.out).cp; clear hown3 hg3 HO2 HB2)
    | (refine wpList_append_src _ rfl _ _ _ rfl W1.heap.size 3 i0 _ 1 8 Tryz.underlying22 HINF.out.1 HINF.out.2.1 HINF.out.2.2.1 HINF.out.2.2.2 rfl (by omega) (.slice none 0 0) 0 [] rfl (World.ownsRow_nil _ _ _ _) none 0 0 [] rfl rfl (fun j u h => by simp at h) (fun u h => by simp at h) (by unfold maxLen; omega) (by omega) (Nat.le_refl _) 0 rfl ?_; intro ad1 cp1 w2 hown2 hg2; have HO2 : Hid (w2.ownsRow W1.heap.size 3 1 (.slice ad1 0 cp1) 0 []) := hown2; have HB2 := Hid.mk' ((Below.refl W1.heap.size W1).grown hg2 (Nat.le_refl _) (fun k h => by cases h)); clear hown2 hg2)))
  obtain ⟨W2, hW2⟩ : ∃ W2, W2 = w4.setCell ⟨B, 0, none⟩ (.slice ad3 1 c3) := ⟨_, rfl⟩
  have hwB : w.heap.size ≠ B := by have := HW.out.lt; omega
  have hbx : w4.cell? ⟨w.heap.size, 0, none⟩ = some (.bool s) ∧ w4.cell? ⟨w.heap.size, 1, none⟩ = some (.slice ad l cap) ∧ w4.cell? ⟨w.heap.size, 2, none⟩ = some (.slice ad' l' cap') := by
    have h1 := HB4.out
    rw [HW1.out] at h1
    exact three_new_past h1
  have HKC : Hid (∀ W, Below W2.heap.size W2 W → W.cell? ⟨B, 1, none⟩ = some (.slice none 0 0) ∧ W.frozen? ⟨B, 1, none⟩ = false ∧ (W.cell? ⟨w.heap.size, 0, none⟩ = some (.bool s) ∧ W.cell? ⟨w.heap.size, 1, none⟩ = some (.slice ad l cap) ∧ W.cell? ⟨w.heap.size, 2, none⟩ = some (.slice ad' l' cap'))) := fun W hb => by
    have h4 := HWA.out.later HB4.out
    have q1 : W2.cell? ⟨B, 1, none⟩ = some (.slice none 0 0) := by rw [hW2]; exact (cell_set0 h4.cp h4.cc).2
    have q2 : W2.frozen? ⟨B, 1, none⟩ = false := by rw [hW2, World.frozen?_setCell]; exact h4.f1
    have q4 : ∀ j v, w4.cell? ⟨w.heap.size, j, none⟩ = some v → W2.cell? ⟨w.heap.size, j, none⟩ = some v := fun j v h => by
      rw [hW2, World.cell?_setCell_far _ _ _ _ (Ne.symm hwB)]; exact h
    exact ⟨(cell_past q1 hb).2, (frozen_past q1 q2 hb).2, ⟨(cell_past (q4 _ _ hbx.1) hb).2, (cell_past (q4 _ _ hbx.2.1) hb).2, (cell_past (q4 _ _ hbx.2.2) hb).2⟩⟩
  rw [← hW2]
  have HW2 := Hid.mk' hW2
  clear hW2 hbx c0 f0 c1
  obtain ⟨c1, _, ⟨b0, b1, b2⟩⟩ := HKC.out W2 (Below.refl _ _)
  go_wp2_with (at_builtin; go_must (first
    | (refine wpList_append_src _ rfl _ _ _ rfl W2.heap.size 57 i3 _ 3 56 Tryz.underlying60 HINR.out.1 HINR.out.2.1 HINR.out.2.2.1 HINR.out.2.2.2 rfl (by omega) (.slice ad5 1 c5) 1 [.bool s, .slice ad l cap, .slice ad' l' cap'] rfl HO6.out none 0 0 [] rfl rfl (fun j u h => by simp at h) (fun u h => by simp at h) (by unfold maxLen; omega) (by omega) HB6.out.size 1 rfl ?_; intro ad6 c6 w7 hown7 hg7; have HO7 := Hid.mk' hown7; have HB7 := Hid.mk' (HB6.out.grown hg7 HB6.out.size (fun k h => (HO6.out.lt k h).1)); obtain ⟨c1, f1, _⟩ := HKC.out _ HB7.out; clear hown7 hg7 HO6 HB6)
    | (refine wpList_append_src _ rfl _ _ _ rfl W2.heap.size 57 i3 _ 3 56 Tryz.underlying60 HINR.out.1 HINR.out.2.1 HINR.out.2.2.1 HINR.out.2.2.2 rfl (by omega) (.slice ad4 0 c4) 0 [] rfl (HO5.out.alloc _) (some ⟨w5.heap.size, 0, none⟩) 1 1 [.bool s, .slice ad l cap, .slice ad' l' cap'] rfl rfl (src_new _ _ _) (fun u hu => by simp at hu; rcases hu with rfl | rfl | rfl <;> rfl) (by unfold maxLen; omega) (by omega) (Nat.le_trans HB5.out.size (by simp)) 1 rfl ?_; intro ad5 c5 w6 hown6 hg6; have HO6 : Hid (w6.ownsRow W2.heap.size 57 3 (.slice ad5 1 c5) 1 [.bool s, .slice ad l cap, .slice ad' l' cap']) := hown6; have HB6 := Hid.mk' (below_push HB5.out HO5.out hg6); obtain ⟨c1, _, _⟩ := HKC.out _ HB6.out; clear hown6 hg6 HO5 HB5)
    | (refine wpList_append_src _ rfl _ _ _ rfl W2.heap.size 57 i3 _ 3 56 Tryz.underlying60 HINR.out.1 HINR.out.2.1 HINR.out.2.2.1 HINR.out.2.2.2 rfl (by omega) (.slice none 0 0) 0 [] rfl (World.ownsRow_nil _ _ _ _) none 0 0 [] rfl rfl (fun j u h => by simp at h) (fun u h => by simp at h) (by unfold maxLen; omega) (by omega) (Nat.le_refl _) 0 rfl ?_; intro ad4 c4 w5 hown5 hg5; have HO5 : Hid (w5.ownsRow W2.heap.size 57 3 (.slice ad4 0 c4) 0 []) := hown5; have HB5 := Hid.mk' ((Below.refl W2.heap.size W2).grown hg5 (Nat.le_refl _) (fun k h => by cases h)); obtain ⟨_, _, ⟨b0, b1, b2⟩⟩ := HKC.out _ HB5.out; clear hown5 hg5)))
  obtain ⟨x1, x2, x3, x4⟩ := wide_insert (k := 0) (e := ⟨p, .bool s, .slice ad l cap, .slice ad' l' cap', z⟩) HWA.out HB4.out HO4.out HW2.out HB7.out HO7.out (by rw [HW1.out]; exact HC.out.later (new_below _ _))
  have hWb : Below w.heap.size w W1 := by rw [HW1.out]; exact new_below _ _
  go_end0
  refine ⟨rfl, _, _, _, x1, ?_, (IntsKept.of_below hWb).trans x2, (Moved.of_below hWb HW.out.lt).trans x3, (hWb.mono (by have := HW.out.hB; have := HW.out.lt; omega)).trans x4⟩
  exact put_between (k := 0) (L := []) (by simp [absL, Rising]) (fun i hi => absurd hi (by omega)) (fun h => absurd h (by simp)) ⟨(fun h => absurd h (by decide)), (fun h => absurd h.1 (by simp))⟩

/-- Prime: a prime with a coefficient comes to a sum. -/
theorem Prime_any (base M B p : Nat) (z : Int) (cv vp vc : Value) (L : List Ent) (k0 : Nat) (w : World) (hW : WideAt base M w B vp vc L) (hc : RatioAt w cv (lowN M z) (lowD M z)) (hM : 0 < M) (hr : Rising (absL L)) (hlen : L.length ≤ 100000) (hbz : z.natAbs < 1000000 ^ k0) (hbL : ∀ e ∈ L, e.z.natAbs < 1000000 ^ k0) (hbM : M < 1000000 ^ k0) (hk0 : k0 ≤ 1000) :
    Calls Tryz.prog 61 #[.pointer (some ⟨B, 0, none⟩), .int .i64 p, cv] w fun e w' => e = .returned (.tuple #[]) ∧ ∃ vp' vc' L', WideAt base M w' B vp' vc' L' ∧ Put (absL L) (absL L') p z ∧ IntsKept w w' ∧ Moved B w w' ∧ Below base w w' := by
  rcases Nat.eq_zero_or_pos L.length with h0 | hL
  · obtain rfl := List.length_eq_zero_iff.1 h0
    obtain ⟨rfl, rfl⟩ := hW.nil rfl
    exact Prime_none base M B p z cv w hW hc
  · obtain ⟨gp, capp, rfl, _⟩ := hW.P.form hL
    obtain ⟨gc, capc, rfl, _⟩ := hW.C.form hL
    exact Prime_more base M B p z cv gp gc capp capc L k0 w hW hc hM hr hL hlen hbz hbL hbM hk0
end Go.Proofs.YtklhfagcembigaaGreatDoor

/- (*Wide).Number: the logarithm of a number, so often. -/
namespace Go.Proofs.YtklhfagcembigaaGreatDoor
open Go.RowKit

theorem absL_length (L : List Ent) : (absL L).length = L.length := by unfold absL; simp
theorem absL_mem {L : List Ent} {e : Ent} (h : e ∈ L) : ((e.p : Int), e.z) ∈ absL L := List.mem_map.2 ⟨e, h, rfl⟩

/-- What Number keeps: n is left, k factors are put. -/
structure InNum (base M B : Nat) (W0 wr : World) (z : Int) (L0 : List Ent) (n0 n k : Nat) (vp vc : Value) (L : List Ent) : Prop where
  wide : WideAt base M wr B vp vc L
  rise : Rising (absL L)
  val : ∀ x, atL (absL L) x + z * multI x n = atL (absL L0) x + z * multI x n0
  cnt : 2 ^ k * n ≤ n0
  len : L.length ≤ L0.length + k
  kept : IntsKept W0 wr
  moved : Moved B W0 wr
  below : Below base W0 wr

theorem InNum.cnt_le {base M B : Nat} {W0 wr : World} {z : Int} {L0 : List Ent} {n0 n k : Nat} {vp vc : Value} {L : List Ent} (h : InNum base M B W0 wr z L0 n0 n k vp vc L) (hn : 0 < n) (hn06 : n0 ≤ 1000000) : k ≤ 19 := by
  rcases Nat.lt_or_ge 19 k with h' | h'
  · have h1 := h.cnt
    have h2 : 2 ^ 20 ≤ 2 ^ k := Nat.pow_le_pow_right (by decide) h'
    have h3 : (2 : Nat) ^ 20 = 1048576 := by decide
    have h4 := Nat.mul_le_mul_left (2 ^ k) hn
    omega
  · exact h'
theorem InNum.coef {base M B : Nat} {W0 wr : World} {z : Int} {L0 : List Ent} {n0 n k : Nat} {vp vc : Value} {L : List Ent} (h : InNum base M B W0 wr z L0 n0 n k vp vc L) (hn : 0 < n) (hn6 : n ≤ 1000000) (hn0 : 0 < n0) (hn06 : n0 ≤ 1000000) {E : Nat} (hb : ∀ x, (atL (absL L0) x).natAbs + 20 * z.natAbs < E) : ∀ e ∈ L, e.z.natAbs < E := fun e he => by
  have h0 := atL_mem h.rise (absL_mem he)
  simp only at h0
  have h1 := h.val e.p
  have h2 := hb e.p
  have h3 := multI_nonneg e.p n
  have h4 := multI_le e.p hn hn6
  have h5 := multI_nonneg e.p n0
  have h6 := multI_le e.p hn0 hn06
  rw [h0] at h1
  have h7 : e.z = atL (absL L0) e.p + z * (multI e.p n0 - multI e.p n) := by rw [Int.mul_sub]; omega
  have h8 : (z * (multI e.p n0 - multI e.p n)).natAbs ≤ z.natAbs * 19 := by
    rw [Int.natAbs_mul]
    exact Nat.mul_le_mul_left _ (by omega)
  have h9 := Int.natAbs_add_le (atL (absL L0) e.p) (z * (multI e.p n0 - multI e.p n))
  rw [← h7] at h9
  omega
theorem InNum.put {base M B : Nat} {W0 wr w1 : World} {z : Int} {L0 : List Ent} {n0 n k d : Nat} {vp vc vp' vc' : Value} {L L' : List Ent} (h : InNum base M B W0 wr z L0 n0 n k vp vc L) (hn : 0 < n) (hd : Pr d) (hm : n % d = 0)
    (hw : WideAt base M w1 B vp' vc' L') (hp : Put (absL L) (absL L') d z) (hk : IntsKept wr w1) (hmv : Moved B wr w1) (hb : Below base wr w1) : InNum base M B W0 w1 z L0 n0 (n / d) (k + 1) vp' vc' L' := by
  refine ⟨hw, hp.rise, fun x => ?_, ?_, ?_, h.kept.trans hk, h.moved.trans hmv, h.below.trans hb⟩
  · rw [hp.val x, ← h.val x, multI_step x hn hd hm, Int.mul_add]
    by_cases hx : x = (d : Int)
    · rw [if_pos hx, if_pos hx, Int.mul_one]; omega
    · rw [if_neg hx, if_neg hx, Int.mul_zero]; omega
  · have h1 := h.cnt
    have h2 : 2 * (n / d) ≤ n := by
      have h3 := Nat.mul_le_mul_right (n / d) hd.1
      have h4 := Nat.mul_div_le n d
      omega
    have h5 := Nat.mul_le_mul_left (2 ^ k) h2
    rw [Nat.pow_succ, Nat.mul_assoc]
    omega
  · have h1 := hp.len
    have h2 := h.len
    rw [absL_length, absL_length] at h1
    omega
/-- A new block is none of a Wide's own. -/
theorem WideAt.not_mine {base M : Nat} {W : World} {B : Nat} {vp vc : Value} {L : List Ent} (h : WideAt base M W B vp vc L) (X : Obj) : ¬ Mine B (W.alloc X) W.heap.size := by
  have hB := h.lt
  have hb : Below W.heap.size W (W.alloc X) := new_below _ _
  rintro (h1 | ⟨n, cap, h1⟩)
  · omega
  · rw [(h.later hb).cc] at h1
    have hv := Option.some.inj h1
    subst hv
    rcases h.C.2 with ⟨h2, _⟩ | ⟨g, c, cur, h2, _, h3, _⟩
    · cases h2
    · have h4 : W.heap.size = g := by injection h2 with h2; injection h2 with h2; injection h2
      have h5 := h.C.lt g (by rw [h2]; rfl)
      omega

def numMeas (t r : Nat) : Nat := if t ≤ 1 then 0 else 2000 - r
theorem numMeas_lt {n d m e : Nat} (h : 1 < n) (hd : d ≤ 1001) (h' : m ≤ 1 ∨ d < e) : numMeas m e < numMeas n d := by
  unfold numMeas
  rw [if_neg (show ¬ n ≤ 1 by omega)]
  by_cases hm : m ≤ 1
  · rw [if_pos hm]; omega
  · rw [if_neg hm]; omega

set_option maxRecDepth 100000 in
set_option maxHeartbeats 2000000 in
theorem Number_any (base M B n0 : Nat) (z : Int) (cv vp vc : Value) (L : List Ent) (k0 : Nat) (w : World) (hW : WideAt base M w B vp vc L) (hc : RatioAt w cv (lowN M z) (lowD M z)) (hM : 0 < M) (hr : Rising (absL L)) (hlen : L.length ≤ 90000) (hn1 : 1 ≤ n0) (hn6 : n0 ≤ 1000000) (hb : ∀ x, (atL (absL L) x).natAbs + 20 * z.natAbs < 1000000 ^ k0) (hbM : M < 1000000 ^ k0) (hk0 : k0 ≤ 1000) :
    Calls Tryz.prog 33 #[.pointer (some ⟨B, 0, none⟩), .int .i64 n0, cv] w fun e w' => e = .returned (.tuple #[]) ∧ ∃ vp' vc' L' k, InNum base M B w w' z L n0 1 k vp' vc' L' := by
  obtain ⟨s, ad, l, cap, ad', l', cap', rfl⟩ := hc.parts
  have hb0 : Below w.heap.size w (w.alloc (.cells #[.bool s, .slice ad l cap, .slice ad' l' cap'] 57)) := new_below _ _
  have hnm := hW.not_mine (.cells #[.bool s, .slice ad l cap, .slice ad' l' cap'] 57)
  have hbz : z.natAbs < 1000000 ^ k0 := by have := hb 0; omega
  have hI0 : InNum base M B w (w.alloc (.cells #[.bool s, .slice ad l cap, .slice ad' l' cap'] 57)) z L n0 n0 0 vp vc L :=
    ⟨hW.later hb0, hr, fun x => rfl, by simp, Nat.le_refl _, IntsKept.of_below hb0, Moved.of_below hb0 hW.lt, hb0.mono (by have := hW.hB; have := hW.lt; omega)⟩
  have HC : Hid (∀ wr, Moved B (w.alloc (.cells #[.bool s, .slice ad l cap, .slice ad' l' cap'] 57)) wr → wr.cell? ⟨w.heap.size, 0, none⟩ = some (.bool s) ∧ wr.cell? ⟨w.heap.size, 1, none⟩ = some (.slice ad l cap) ∧ wr.cell? ⟨w.heap.size, 2, none⟩ = some (.slice ad' l' cap')) := fun wr hm => by
    refine ⟨?_, ?_, ?_⟩
    · rw [hm.cell (by simp) hnm]; simp
    · rw [hm.cell (by simp) hnm]; simp
    · rw [hm.cell (by simp) hnm]; simp
  have HRA : Hid (∀ wr, IntsKept w wr → RatioAt wr (.agg #[.bool s, .slice ad l cap, .slice ad' l' cap']) (lowN M z) (lowD M z)) := fun wr hk => hc.kept hk
  obtain ⟨W0, hW0⟩ : ∃ W0, W0 = w.alloc (.cells #[.bool s, .slice ad l cap, .slice ad' l' cap'] 57) := ⟨_, rfl⟩
  rw [← hW0] at hI0 HC
  have HW0 := Hid.mk' hW0
  have HM0 : Hid (Moved B W0 W0) := Moved.refl _ _
  have HI0 := Hid.mk' hI0
  have HB := Hid.mk' hb
  clear hW hc hr hb hb0 hnm hI0 hW0
  go_enter Tryz.func33, Tryz.ntmps33
  go_wp2_with fail
  rw [← HW0.out]
  go_loopw [1, 6] (fun t r wr => ∃ (n d k : Nat) (vp1 vc1 : Value) (L1 : List Ent), t = .int .i64 n ∧ r = .int .i64 d ∧ 1 ≤ n ∧ n ≤ 1000000 ∧ 2 ≤ d ∧ d ≤ 1000001 ∧ (n ≤ 1 ∨ d ≤ 1001) ∧ Hid (∀ e, 2 ≤ e → e < d → n % e ≠ 0) ∧ Hid (InNum base M B w wr z L n0 n k vp1 vc1 L1) ∧ Hid (Moved B W0 wr)) (fun t r _ => numMeas (intOf t).toNat (intOf r).toNat)
  case atStart => exact ⟨n0, 2, 0, vp, vc, L, rfl, rfl, hn1, hn6, by omega, by omega, by omega, fun e h1 h2 => by omega, HI0, HM0⟩
  case round =>
    clear HI0 HM0
    obtain ⟨n, d, k, vp1, vc1, L1, rfl, rfl, hn, hnm, hd2, hd3, hd4, HD, HI, HMV⟩ := hrel
    by_cases h1 : n ≤ 1
    · obtain rfl : n = 1 := by omega
      go_wp2_with fail
      go_end0
      exact ⟨rfl, _, _, _, _, HI.out⟩
    · have h1I : (1 : Int) < (n : Int) := by omega
      have hd5 : d ≤ 1001 := by omega
      by_cases hle : d * d ≤ n
      · have hq' : wrap64 ((d : Int) * (d : Int)) ≤ (n : Int) := by
          have h0 : (d : Int) * (d : Int) = ((d * d : Nat) : Int) := by simp
          rw [h0, w64 _ (by omega)]; omega
        have hd6 : d ≤ 1000 := by
          rcases Nat.lt_or_ge 1000 d with h | h
          · have := Nat.mul_le_mul h h; omega
          · exact h
        clear hle hd4
        go_wp2_with fail
        obtain ⟨wo, hwo⟩ : ∃ wo, wo = wr := ⟨_, rfl⟩
        rw [← hwo] at HI HMV ⊢
        clear hwo
        go_loopw [1] (fun t wr => ∃ (m k : Nat) (vp1 vc1 : Value) (L1 : List Ent), t = .int .i64 m ∧ 1 ≤ m ∧ m ≤ n ∧ Hid (∀ e, 2 ≤ e → e < d → m % e ≠ 0) ∧ Hid (InNum base M B w wr z L n0 m k vp1 vc1 L1) ∧ Hid (Moved B W0 wr)) (fun t _ => (intOf t).toNat)
        case atStart => exact ⟨n, k, vp1, vc1, L1, rfl, hn, Nat.le_refl _, HD, HI, HMV⟩
        case round =>
          clear HD HI HMV hq'
          obtain ⟨m, k, vp1, vc1, L1, rfl, hm, hmm, HD, HI, HMV⟩ := hrel
          by_cases hmod : m % d = 0
          · have hb1 : ((m : Int) % (d : Int) == 0) = true := by
              have : (m : Int) % (d : Int) = ((m % d : Nat) : Int) := by simp
              rw [this, hmod]; rfl
            have hpr : Pr d := pr_least hd2 hmod HD.out
            have hdm : d ≤ m := Nat.le_of_dvd hm (Nat.dvd_of_mod_eq_zero hmod)
            obtain ⟨c0, c1, c2⟩ := HC.out wr HMV.out
            have hk := HI.out.cnt_le hm hn6
            have hpri := Prime_any base M B d z _ vp1 vc1 L1 k0 wr HI.out.wide (HRA.out wr HI.out.kept) hM HI.out.rise (by have := HI.out.len; omega) hbz (HI.out.coef hm (by omega) hn1 hn6 HB.out) hbM hk0
            have HPUT := Hid.mk' (fun (w1 : World) (vp' vc' : Value) (L' : List Ent) => HI.out.put (w1 := w1) (vp' := vp') (vc' := vc') (L' := L') hm hpr hmod)
            have hdiv : m / d ≤ m / 2 := Nat.div_le_div_left hd2 (by omega)
            have hdiv1 : 1 ≤ m / d := Nat.div_pos hdm (by omega)
            have HQM := Hid.mk' (quo_any (a := m) (b := d) (by omega))
            have HDV := Hid.mk' (And.intro hdiv1 hdiv)
            have HMOD := Hid.mk' hmod
            clear hmod hpr hdiv hdiv1 HI
            go_wp2_with fail
            refine hpri.mono ?_
            clear hpri
            rintro e w1 ⟨rfl, vp2, vc2, L2, q1, q2, q3, q4, q5⟩
            have HI2 := Hid.mk' (HPUT.out w1 vp2 vc2 L2 q1 q2 q3 q4 q5)
            have HM2 := Hid.mk' (HMV.out.trans q4)
            clear q1 q2 q3 q4 q5 HPUT c0 c1 c2
            go_wp2_with fail
            exact ⟨⟨m / d, k + 1, _, _, _, by rw [HQM.out], HDV.out.1, by have := HDV.out.2; omega, left_no HMOD.out HD.out, HI2, HM2⟩, by rw [HQM.out]; show (((m / d : Nat) : Int)).toNat < ((m : Nat) : Int).toNat; rw [Int.toNat_natCast, Int.toNat_natCast]; have := HDV.out.2; omega⟩
          · have hb1 : ((m : Int) % (d : Int) == 0) = false := by
              have : (m : Int) % (d : Int) = ((m % d : Nat) : Int) := by simp
              rw [this, beq_eq_false_iff_ne]; omega
            have HD' : Hid (∀ e, 2 ≤ e → e < d + 1 → m % e ≠ 0) := fun e h1 h2 => by
              rcases Nat.lt_or_ge e d with h | h
              · exact HD.out e h1 h
              · obtain rfl : e = d := by omega
                exact hmod
            clear hmod
            go_wp2_with fail
            exact ⟨⟨m, d + 1, k, _, _, _, rfl, by go_num, hm, by omega, by omega, by omega, by omega, HD', HI, HMV⟩, by simp [intOf]; exact numMeas_lt (by omega) (by omega) (by omega)⟩
      · have hq' : (n : Int) < wrap64 ((d : Int) * (d : Int)) := by
          have h0 : (d : Int) * (d : Int) = ((d * d : Nat) : Int) := by simp
          have h1 := Nat.mul_le_mul hd5 hd5
          rw [h0, w64 _ (by omega)]; omega
        have HPR : Hid (Pr n) := Pr_of_end (by omega) HD.out (by omega)
        clear hle hd4
        go_wp2_with fail
        obtain ⟨wo, hwo⟩ : ∃ wo, wo = wr := ⟨_, rfl⟩
        rw [← hwo] at HI HMV ⊢
        clear hwo
        go_loopw [1] (fun t wr => ∃ (m k : Nat) (vp1 vc1 : Value) (L1 : List Ent), t = .int .i64 m ∧ (m = n ∨ m = 1) ∧ Hid (InNum base M B w wr z L n0 m k vp1 vc1 L1) ∧ Hid (Moved B W0 wr)) (fun t _ => (intOf t).toNat)
        case atStart => exact ⟨n, k, vp1, vc1, L1, rfl, Or.inl rfl, HI, HMV⟩
        case round =>
          clear HD HI HMV hq'
          obtain ⟨m, k, vp1, vc1, L1, rfl, hmm, HI, HMV⟩ := hrel
          rcases hmm with rfl | rfl
          · have hb1 : ((m : Int) % (m : Int) == 0) = true := by
              have : (m : Int) % (m : Int) = ((m % m : Nat) : Int) := by simp
              rw [this, Nat.mod_self]; rfl
            obtain ⟨c0, c1, c2⟩ := HC.out wr HMV.out
            have hk := HI.out.cnt_le hn hn6
            have hpri := Prime_any base M B m z _ vp1 vc1 L1 k0 wr HI.out.wide (HRA.out wr HI.out.kept) hM HI.out.rise (by have := HI.out.len; omega) hbz (HI.out.coef hn (by omega) hn1 hn6 HB.out) hbM hk0
            have HPUT := Hid.mk' (fun (w1 : World) (vp' vc' : Value) (L' : List Ent) => HI.out.put (w1 := w1) (vp' := vp') (vc' := vc') (L' := L') hn HPR.out (Nat.mod_self m))
            have HQM := Hid.mk' (quo_any (a := m) (b := m) (by omega))
            clear HI
            go_wp2_with fail
            refine hpri.mono ?_
            clear hpri
            rintro e w1 ⟨rfl, vp2, vc2, L2, q1, q2, q3, q4, q5⟩
            have hi2 := HPUT.out w1 vp2 vc2 L2 q1 q2 q3 q4 q5
            rw [Nat.div_self (by omega)] at hi2
            have HI2 := Hid.mk' hi2
            have HM2 := Hid.mk' (HMV.out.trans q4)
            clear q1 q2 q3 q4 q5 HPUT c0 c1 c2 hi2
            go_wp2_with fail
            exact ⟨⟨1, k + 1, _, _, _, by rw [HQM.out, Nat.div_self (by omega)], Or.inr rfl, HI2, HM2⟩, by rw [HQM.out, Nat.div_self (by omega)]; simp [intOf]; omega⟩
          · have hb1 : ((1 : Int) % (n : Int) == 0) = false := by
              have : (1 : Int) % (n : Int) = ((1 % n : Nat) : Int) := by simp
              rw [this, beq_eq_false_iff_ne, Nat.mod_eq_of_lt (by omega)]; decide
            go_wp2_with fail
            exact ⟨⟨1, n + 1, k, _, _, _, rfl, by go_num, by omega, by omega, by omega, by omega, Or.inl (by omega), (fun e h1 h2 => by rw [Nat.mod_eq_of_lt (by omega)]; omega), HI, HMV⟩, by simp [intOf]; exact numMeas_lt (by omega) (by omega) (by omega)⟩
end Go.Proofs.YtklhfagcembigaaGreatDoor

/- The common denominator of fractions, and what is told over it. -/
namespace Go.Proofs.YtklhfagcembigaaGreatDoor

theorem lcm_quot {M G H : Nat} (hM : 0 < M) (hG : G ∣ M) (hH : H ∣ M) : (M / G) * ((M / H) / Nat.gcd (M / G) (M / H)) = M / Nat.gcd G H := by
  obtain ⟨a, ha⟩ := hG
  obtain ⟨b, hb⟩ := hH
  have hG0 : 0 < G := Nat.pos_of_ne_zero fun h => by rw [h, Nat.zero_mul] at ha; omega
  have hH0 : 0 < H := Nat.pos_of_ne_zero fun h => by rw [h, Nat.zero_mul] at hb; omega
  have ha0 : 0 < a := Nat.pos_of_ne_zero fun h => by rw [h, Nat.mul_zero] at ha; omega
  have e1 : M / G = a := by rw [ha]; exact Nat.mul_div_cancel_left _ hG0
  have e2 : M / H = b := by rw [hb]; exact Nat.mul_div_cancel_left _ hH0
  rw [e1, e2]
  have hk : 0 < Nat.gcd G H := Nat.gcd_pos_of_pos_left _ hG0
  have hc := Nat.coprime_div_gcd_div_gcd hk
  have eG : G = Nat.gcd G H * (G / Nat.gcd G H) := (Nat.mul_div_cancel' (Nat.gcd_dvd_left _ _)).symm
  have eH : H = Nat.gcd G H * (H / Nat.gcd G H) := (Nat.mul_div_cancel' (Nat.gcd_dvd_right _ _)).symm
  generalize Nat.gcd G H = k at *
  generalize G / k = g at *
  generalize H / k = h at *
  have h1 : g * a = h * b := by
    have : k * (g * a) = k * (h * b) := by rw [← Nat.mul_assoc, ← Nat.mul_assoc, ← eG, ← eH, ← ha, ← hb]
    exact Nat.eq_of_mul_eq_mul_left hk this
  obtain ⟨c, rfl⟩ : g ∣ b := hc.dvd_of_dvd_mul_left ⟨a, h1.symm⟩
  have hg0 : 0 < g := Nat.pos_of_ne_zero fun e => by rw [e, Nat.mul_zero] at eG; omega
  have h2 : a = h * c := by
    have : g * a = g * (h * c) := by rw [h1]; grind
    exact Nat.eq_of_mul_eq_mul_left hg0 this
  subst h2
  have hc0 : 0 < c := Nat.pos_of_ne_zero fun e => by rw [e, Nat.mul_zero] at ha0; omega
  have h3 : Nat.gcd (h * c) (g * c) = c := by rw [Nat.gcd_mul_right, hc.symm, Nat.one_mul]
  rw [h3, Nat.mul_div_cancel _ hc0, ha, eG]
  rw [show k * g * (h * c) = k * (h * c * g) by grind, Nat.mul_div_cancel_left _ hk]

theorem den_step {M G : Nat} {z : Int} (hM : 0 < M) (hG : G ∣ M) : (M / G) * (lowD M z / Nat.gcd (M / G) (lowD M z)) = M / Nat.gcd G z.natAbs := by
  unfold lowD
  rw [lcm_quot hM hG (show lowG M z ∣ M from Nat.gcd_dvd_right _ _)]
  congr 1
  unfold lowG
  refine Nat.dvd_antisymm ?_ ?_
  · exact Nat.dvd_gcd (Nat.gcd_dvd_left _ _) (Nat.dvd_trans (Nat.gcd_dvd_right _ _) (Nat.gcd_dvd_left _ _))
  · exact Nat.dvd_gcd (Nat.gcd_dvd_left _ _) (Nat.dvd_gcd (Nat.gcd_dvd_right _ _) (Nat.dvd_trans (Nat.gcd_dvd_left _ _) hG))

/-- A coefficient times the common denominator is whole. -/
theorem coef_whole {M G : Nat} {z : Int} (hM : 0 < M) (hG : G ∣ M) (hz : G ∣ z.natAbs) : (lowN M z * ((M / G : Nat) : Int)).tdiv ((Nat.gcd (lowN M z * ((M / G : Nat) : Int)).natAbs (lowD M z * 1) : Nat) : Int) = z.tdiv (G : Int) ∧ lowD M z * 1 / Nat.gcd (lowN M z * ((M / G : Nat) : Int)).natAbs (lowD M z * 1) = 1 := by
  have hG0 : 0 < G := Nat.pos_of_dvd_of_pos hG hM
  have h1 := low_cross hM z
  have h2 : z = (G : Int) * z.tdiv (G : Int) := (Int.mul_tdiv_cancel' (Int.ofNat_dvd_left.2 hz)).symm
  have h3 : (M : Int) = (G : Int) * ((M / G : Nat) : Int) := by rw [← Int.natCast_mul, Nat.mul_div_cancel' hG]
  have h4 : lowN M z * ((M / G : Nat) : Int) * ((1 : Nat) : Int) = z.tdiv (G : Int) * ((lowD M z * 1 : Nat) : Int) := by
    rw [Nat.mul_one]
    generalize lowN M z = a at *
    generalize (lowD M z : Int) = d at *
    generalize ((M / G : Nat) : Int) = m at *
    have h5 : (G : Int) * (a * m * ((1 : Nat) : Int)) = (G : Int) * (z.tdiv (G : Int) * d) := by
      rw [h3] at h1
      generalize z.tdiv (G : Int) = q at *
      rw [h2] at h1
      have : a * ((G : Int) * m) = (G : Int) * q * d := h1
      grind
    exact Int.eq_of_mul_eq_mul_left (by omega) h5
  have h6 := low_same (M := 1) (z := z.tdiv (G : Int)) (by decide) (Nat.mul_pos (lowD_pos hM z) (by decide)) h4
  rw [(low_one _).1, (low_one _).2] at h6
  exact h6
theorem gList_dvd_base (L : List Int) (g : Nat) : gList g L ∣ g := (gList_dvd L g).1
end Go.Proofs.YtklhfagcembigaaGreatDoor

/- (*Wide).Told: a sum in form, or the bound's number. -/
namespace Go.Proofs.YtklhfagcembigaaGreatDoor
open Go.RowKit

theorem InOut.later {w1 wr wn : World} {d : Int} {sv : Value} {n : Nat} {xs : List Value} (h : InOut w1 wr d sv n xs) (hb : Below wr.heap.size wr wn) : InOut w1 wn d sv n xs :=
  ⟨below_chain h.keep hb, (cell_past h.o0 hb).2, (cell_past h.o1 hb).2, (frozen_past h.o1 h.fz hb).2, ownsRow_past h.row hb⟩

theorem InOut.grows {w1 wr w3 : World} {d : Int} {sv : Value} {n : Nat} {xs : List Value} {X : Obj} (h : InOut w1 wr d sv n xs) (hg : (wr.alloc X).grownBy w3 sv.ownBlock) : Below (w1.heap.size + 1) wr w3 := by
  have hB := cell_lt h.o0
  simp only at hB
  exact ((Below.refl _ _).alloc (by omega) _).grown hg (by simp; omega) (fun k e => (h.row.lt k e).1)
/-- A fraction's box, ahead of its store. -/
structure NewBox3 (W0 W : World) (B : Nat) : Prop where
  c0 : W.cell? ⟨B, 0, none⟩ = some (.bool false)
  c1 : W.cell? ⟨B, 1, none⟩ = some (.slice none 0 0)
  c2 : W.cell? ⟨B, 2, none⟩ = some (.slice none 0 0)
  f0 : W.frozen? ⟨B, 0, none⟩ = false
  f1 : W.frozen? ⟨B, 1, none⟩ = false
  f2 : W.frozen? ⟨B, 2, none⟩ = false
  no : NoInts W B
  hB : W0.heap.size ≤ B
theorem NewBox3.later {W0 W W' : World} {B : Nat} (h : NewBox3 W0 W B) (hb : Below W.heap.size W W') : NewBox3 W0 W' B :=
  ⟨(cell_past h.c0 hb).2, (cell_past h.c1 hb).2, (cell_past h.c2 hb).2, (frozen_past h.c0 h.f0 hb).2, (frozen_past h.c1 h.f1 hb).2, (frozen_past h.c2 h.f2 hb).2, h.no.later (cell_lt h.c0) hb, h.hB⟩
theorem newBox3_new {W0 W : World} (h : Below W0.heap.size W0 W) : NewBox3 W0 (W.alloc (.cells #[.bool false, .slice none 0 0, .slice none 0 0] 57)) W.heap.size :=
  ⟨by simp, by simp, by simp, by simp, by simp, by simp, noInts_new3 W false none 0 0 none 0 0 _, h.size⟩
theorem newBox3_of {W0 W W' : World} (h : Below W0.heap.size W0 W) (hb : Below (W.alloc (.cells #[.bool false, .slice none 0 0, .slice none 0 0] 57)).heap.size (W.alloc (.cells #[.bool false, .slice none 0 0, .slice none 0 0] 57)) W') : NewBox3 W0 W' W.heap.size :=
  (newBox3_new h).later hb
/-- A fraction's box: its sign and size. -/
structure RatBox (W0 W : World) (B : Nat) (z : Int) : Prop where
  below : Below W0.heap.size W0 W
  box : ∃ u, W.cell? ⟨B, 0, none⟩ = some (.bool (decide (z < 0))) ∧ W.cell? ⟨B, 1, none⟩ = some u ∧ BigAt W u z.natAbs
theorem ratBox_late {W0 W : World} {z : Int} {ad : Option Addr} {l cap : Nat} {v : Value} (h : Below W0.heap.size W0 W) (hu : BigAt W (.slice ad l cap) z.natAbs) : RatBox W0 (W.alloc (.cells #[.bool (decide (z < 0)), .slice ad l cap, v] 57)) W.heap.size z :=
  ⟨more_below h _, ⟨.slice ad l cap, by rw [World.cell?_alloc_at _ _ _ _ rfl]; rfl, by rw [World.cell?_alloc_at _ _ _ _ rfl]; rfl, hu.later (new_below _ _)⟩⟩
theorem ratBox_soon {W0 W : World} {B : Nat} {z : Int} {ad ad' : Option Addr} {l cap l' cap' : Nat} (h : Below W0.heap.size W0 W) (hu : BigAt W (.slice ad l cap) z.natAbs) (hn : NewBox3 W0 W B) : RatBox W0 (((W.setCell ⟨B, 0, none⟩ (.bool (decide (z < 0)))).setCell ⟨B, 1, none⟩ (.slice ad l cap)).setCell ⟨B, 2, none⟩ (.slice ad' l' cap')) B z :=
  ⟨below_set3 h hn.hB _ _ _, ⟨.slice ad l cap, by rw [World.cell?_setCell_other _ _ _ _ (by simp), World.cell?_setCell_other _ _ _ _ (by simp)]; exact World.cell?_setCell_same _ _ _ hn.c0, by rw [World.cell?_setCell_other _ _ _ _ (by simp)]; exact World.cell?_setCell_same _ _ _ (by rw [World.cell?_setCell_other _ _ _ _ (by simp)]; exact hn.c1), hu.set3 hn.no hn.c0 hn.c1⟩⟩

def zsOf (L : List Ent) : List Int := L.map Ent.z
def gT (M : Nat) (L : List Ent) (k : Nat) : Nat := gList M ((zsOf L).take k)
theorem zsOf_length (L : List Ent) : (zsOf L).length = L.length := by unfold zsOf; simp
theorem gT_succ (M : Nat) {L : List Ent} {k : Nat} {f : Ent} (hf : L[k]? = some f) : gT M L (k + 1) = Nat.gcd (gT M L k) f.z.natAbs := by
  have hk : k < L.length := (List.getElem?_eq_some_iff.1 hf).1
  have hz : (zsOf L)[k]? = some f.z := by unfold zsOf; rw [List.getElem?_map, hf]; rfl
  have h1 : (zsOf L).take (k + 1) = (zsOf L).take k ++ [f.z] := by
    rw [List.take_succ_eq_append_getElem (by rw [zsOf_length]; exact hk)]
    rw [List.getElem?_eq_getElem (by rw [zsOf_length]; exact hk)] at hz
    rw [Option.some.inj hz]
  unfold gT
  rw [h1, gList_append]
theorem gT_dvd (M : Nat) (L : List Ent) (k : Nat) : gT M L k ∣ M := gList_dvd_base _ _
theorem gT_all (M : Nat) (L : List Ent) : gT M L L.length = gList M (zsOf L) := by unfold gT; rw [← zsOf_length, List.take_length]
theorem den_lt {M E : Nat} (h : M < E) (L : List Ent) (k : Nat) : M / gT M L k < E := Nat.lt_of_le_of_lt (Nat.div_le_self _ _) h
theorem den_pos {M : Nat} (h : 0 < M) (L : List Ent) (k : Nat) : 0 < M / gT M L k := Nat.div_pos (Nat.le_of_dvd h (gT_dvd M L k)) (Nat.pos_of_dvd_of_pos (gT_dvd M L k) h)
theorem den_next {M : Nat} (h : 0 < M) {L : List Ent} {k : Nat} {f : Ent} (hf : L[k]? = some f) : (M / gT M L k) * (lowD M f.z / Nat.gcd (M / gT M L k) (lowD M f.z)) = M / gT M L (k + 1) := by
  rw [gT_succ M hf]; exact den_step h (gT_dvd M L k)
theorem over_next {G : Nat} {L : List Ent} {k : Nat} {f : Ent} (hf : L[k]? = some f) : overL G (absL (L.take (k + 1))) = overL G (absL (L.take k)) ++ if f.z.tdiv (G : Int) = 0 then [] else [((f.p : Int), f.z.tdiv (G : Int))] := by
  have hk : k < L.length := (List.getElem?_eq_some_iff.1 hf).1
  have h1 : L.take (k + 1) = L.take k ++ [f] := by
    rw [List.take_succ_eq_append_getElem hk]
    rw [List.getElem?_eq_getElem hk] at hf
    rw [Option.some.inj hf]
  rw [h1, absL_join]
  unfold overL
  rw [List.map_append, List.filter_append]
  congr 1
  by_cases h : f.z.tdiv (G : Int) = 0
  · rw [if_pos h]; simp [absL, h]
  · rw [if_neg h]; simp [absL, h]
theorem take_len_le {G : Nat} (L : List Ent) (k : Nat) : (overL G (absL (L.take k))).length ≤ L.length := by
  have h1 := length_over (absL (L.take k)) G
  rw [absL_length, List.length_take] at h1
  omega
def FitsW (M G : Nat) (L : List Ent) : Prop := M / G ≤ 1000000 ∧ ∀ e ∈ L, (e.z.tdiv (G : Int)).natAbs ≤ 1099511627776
/-- A place of a Wide, cell by cell. -/
theorem WideAt.cells {base M B : Nat} {W : World} {adp adc : Option Addr} {np nc capp capc : Nat} {L : List Ent} (h : WideAt base M W B (.slice adp np capp) (.slice adc nc capc) L) {k : Nat} {f : Ent} (hf : L[k]? = some f) : ∃ gp gc, adp = some ⟨gp, 0, none⟩ ∧ adc = some ⟨gc, 0, none⟩ ∧ W.cell? ⟨gp, k, none⟩ = some (.int .i64 (f.p : Int)) ∧ W.cell? ⟨gc, k * 3, none⟩ = some f.x ∧ W.cell? ⟨gc, k * 3 + 1, none⟩ = some f.y ∧ W.cell? ⟨gc, k * 3 + 2, none⟩ = some f.q := by
  have hk : k < L.length := (List.getElem?_eq_some_iff.1 hf).1
  have hfk : L[k] = f := (List.getElem?_eq_some_iff.1 hf).2
  obtain ⟨gp, cp, e1, _⟩ := h.P.form (by omega)
  obtain ⟨gc, cc, e2, _⟩ := h.C.form (by omega)
  simp only [Value.slice.injEq] at e1 e2
  obtain ⟨rfl, rfl, rfl⟩ := e1
  obtain ⟨rfl, rfl, rfl⟩ := e2
  have hfl := flat3_length L
  obtain ⟨x0, x1, x2⟩ := flat3_at L k f hf
  refine ⟨gp, gc, rfl, rfl, ?_, ?_, ?_, ?_⟩
  · rw [h.P.cellAt k (by omega), digCells_get (by unfold primes; simpa using hk), primes_at hk, hfk]
  · rw [h.C.cellAt _ (by omega), x0]
  · rw [h.C.cellAt _ (by omega), x1]
  · rw [h.C.cellAt _ (by omega), x2]
end Go.Proofs.YtklhfagcembigaaGreatDoor
