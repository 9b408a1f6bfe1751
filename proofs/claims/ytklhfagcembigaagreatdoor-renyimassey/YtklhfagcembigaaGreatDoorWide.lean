/- A logarithm while the document makes it: two rows behind a pointer. -/
import Derived.Test.YtklhfagcembigaaGreatDoorWideMath
import Derived.Test.YtklhfagcembigaaGreatDoorPlus
import Derived.Deep.AppendLies
import Derived.Deep.Upon
import Derived.Deep.Onto
namespace Go.Proofs.YtklhfagcembigaaGreatDoor
open Go.RowKit

section
variable {P : Program} (w : World)
/-- append of nothing, or of what lies somewhere, to a row of one's own. -/
theorem run_append_src (t ty : TypeId) (base : Nat) (e : TypeId) (i : TypeInfo) (z : Value) (size bytes : Nat) (ht : P.underlying t = some (.slice e)) (hi : P.info? e = some i) (hz : i.zero = some z)
    (hsize : i.size = size) (hby : i.bytes = bytes) (hzs : z.cells.size = size) (hsz : 0 < size)
    (v : Value) (n : Nat) (xs : List Value) (hown : w.ownsRow base e size v n xs)
    (ad : Option Addr) (m c : Nat) (news : List Value) (hl : news.length = m * size) (hnews : ∀ j u, news[j]? = some u → ∃ a', ad = some a' ∧ w.cell? (a'.add j) = some u) (h1 : ∀ u ∈ news, u.oneCell' = true)
    (h63 : n + m ≤ maxLen) (hbytes : (n + m) * bytes ≤ 140737488355328) (hbase : base ≤ w.heap.size) :
    ∃ v' w', (Builtin.append_ #[t, t] ty #[v, .slice ad m c]).run P w = .ok v' w' ∧
      w'.ownsRow base e size v' (n + m) (xs ++ news) ∧ w.grownBy w' v.ownBlock ∧ ∃ ad' c', v' = .slice ad' (n + m) c' := by
  rcases Nat.eq_zero_or_pos m with rfl | hm
  · have hn0 : news = [] := List.length_eq_zero_iff.1 (by rw [hl, Nat.zero_mul])
    subst hn0
    have hsrc : Src P i.size t (.slice ad 0 c) 0 [] w := by
      cases ad with
      | none => exact Src.ofNil w ht c
      | some a => exact Src.ofSlice w ht a 0 c [] (by simp) (fun j u h => by simp at h) (fun u h => by simp at h)
    refine ⟨v, w, ?_, by simpa using hown, ⟨rfl, rfl, rfl, Nat.le_refl _, fun _ _ _ => rfl⟩, ?_⟩
    · rcases hown.2 with ⟨rfl, _⟩ | ⟨g, cap, cur, rfl, _, _, hle, _⟩
      · exact run_append_nothing w t t ty e i ht hi none 0 0 (Nat.le_refl _) _ hsrc
      · exact run_append_nothing w t t ty e i ht hi _ n cap hle _ hsrc
    · rcases hown.2 with ⟨rfl, rfl⟩ | ⟨g, cap, cur, rfl, _, _, hle, _⟩
      · exact ⟨_, _, rfl⟩
      · exact ⟨_, _, rfl⟩
  · have hne : 0 < news.length := by rw [hl]; exact Nat.mul_pos hm hsz
    obtain ⟨a', rfl, _⟩ := hnews 0 _ (List.getElem?_eq_getElem hne)
    obtain ⟨g, cap, w', h2, h3, h4, _, _⟩ := run_append_lies (P := P) w t ty base e i z size bytes ht hi hz hsize hby hzs hsz v n xs hown a' m c news hl (fun j u hu => by obtain ⟨b, hb, hc⟩ := hnews j u hu; cases hb; exact hc) h1 hm h63 hbytes hbase _ rfl
    exact ⟨_, w', h2, h3, h4, _, _, rfl⟩

theorem wpList_append_src {ops : Array Oper} {rest : List Oper} {o : Oper} {a : Act} {Q : Exit → Act → World → Prop} (hgd : o.guard = none) (s x : Operand) (t : TypeId)
    (ho : o.op = .call { callee := .builtin .append, args := #[s, x], argTypes := #[t, t] })
    (base : Nat) (e : TypeId) (i : TypeInfo) (z : Value) (size bytes : Nat) (ht : P.underlying t = some (.slice e)) (hi : P.info? e = some i) (hz : i.zero = some z)
    (hsize : i.size = size) (hby : i.bytes = bytes) (hzs : z.cells.size = size) (hsz : 0 < size)
    (v : Value) (n : Nat) (xs : List Value) (hs : a.eval s = v) (hown : w.ownsRow base e size v n xs)
    (ad : Option Addr) (m c : Nat) (news : List Value) (hx : a.eval x = .slice ad m c) (hl : news.length = m * size) (hnews : ∀ j u, news[j]? = some u → ∃ a', ad = some a' ∧ w.cell? (a'.add j) = some u) (h1 : ∀ u ∈ news, u.oneCell' = true)
    (h63 : n + m ≤ maxLen) (hbytes : (n + m) * bytes ≤ 140737488355328) (hbase : base ≤ w.heap.size) (N : Nat) (hN : n + m = N)
    (h : ∀ ad' c' w', w'.ownsRow base e size (.slice ad' N c') N (xs ++ news) → w.grownBy w' v.ownBlock → wpList P ops Q rest (a.put o.dst (.slice ad' N c')) w') : wpList P ops Q (o :: rest) a w := by
  subst hN
  refine wpList_plain hgd fun K hK => ?_
  obtain ⟨v', w', hr, h2, h3, ad', c', rfl⟩ := run_append_src (P := P) w t o.type base e i z size bytes ht hi hz hsize hby hzs hsz v n xs hown ad m c news hl hnews h1 h63 hbytes hbase
  unfold Oper.wp execOp
  simp only [ho, resolve, invoke, builtin, Sem.run_bind, Sem.run_pure, Result.andThen_ok, List.map_toArray, List.map_cons, List.map_nil, hs, hx, hr]
  exact hK _ _ (h ad' c' w' h2 h3)
end

/-- A prime, its coefficient as it lies, and what that is over the common denominator. -/
structure Ent where
  p : Nat
  x : Value
  y : Value
  q : Value
  z : Int
def Ent.val (e : Ent) : Value := .agg #[e.x, e.y, e.q]
def flat3 : List Ent → List Value
  | [] => []
  | e :: r => e.x :: e.y :: e.q :: flat3 r
def primes (L : List Ent) : List Nat := L.map fun e => e.p
def absL (L : List Ent) : List (Int × Int) := L.map fun e => ((e.p : Int), e.z)
theorem flat3_length : ∀ L : List Ent, (flat3 L).length = L.length * 3
  | [] => rfl
  | e :: r => by
    show (flat3 r).length + 1 + 1 + 1 = (r.length + 1) * 3
    rw [flat3_length r]; omega
theorem flat3_append : ∀ A B : List Ent, flat3 (A ++ B) = flat3 A ++ flat3 B
  | [], B => rfl
  | e :: A, B => by
    show e.x :: e.y :: e.q :: flat3 (A ++ B) = e.x :: e.y :: e.q :: (flat3 A ++ flat3 B)
    rw [flat3_append A B]
theorem flat3_at : ∀ (L : List Ent) (i : Nat) (e : Ent), L[i]? = some e → (flat3 L)[i * 3]? = some e.x ∧ (flat3 L)[i * 3 + 1]? = some e.y ∧ (flat3 L)[i * 3 + 2]? = some e.q
  | [], i, e, h => by simp at h
  | f :: r, 0, e, h => by
    simp at h
    subst h
    exact ⟨rfl, rfl, rfl⟩
  | f :: r, i + 1, e, h => by
    have h' := flat3_at r i e (by simpa using h)
    have e1 : (i + 1) * 3 = i * 3 + 1 + 1 + 1 := by omega
    rw [e1]
    exact h'
theorem flat3_mem : ∀ (L : List Ent) (u : Value), u ∈ flat3 L → ∃ e ∈ L, u = e.x ∨ u = e.y ∨ u = e.q
  | [], u, h => by simp [flat3] at h
  | f :: r, u, h => by
    simp only [flat3, List.mem_cons] at h
    rcases h with h | h | h | h
    · exact ⟨f, List.mem_cons_self .., Or.inl h⟩
    · exact ⟨f, List.mem_cons_self .., Or.inr (Or.inl h)⟩
    · exact ⟨f, List.mem_cons_self .., Or.inr (Or.inr h)⟩
    · obtain ⟨e, he, h'⟩ := flat3_mem r u h
      exact ⟨e, List.mem_cons_of_mem _ he, h'⟩
theorem flat3_set : ∀ (L : List Ent) (k : Nat) (e : Ent), k < L.length → (((flat3 L).set (k * 3) e.x).set (k * 3 + 1) e.y).set (k * 3 + 2) e.q = flat3 (L.set k e)
  | [], k, e, h => by simp at h
  | f :: r, 0, e, _ => rfl
  | f :: r, k + 1, e, h => by
    have ih := flat3_set r k e (by simpa using h)
    have e1 : (k + 1) * 3 = k * 3 + 1 + 1 + 1 := by omega
    rw [e1]
    show f.x :: f.y :: f.q :: ((((flat3 r).set (k * 3) e.x).set (k * 3 + 1) e.y).set (k * 3 + 2) e.q) = f.x :: f.y :: f.q :: flat3 (r.set k e)
    rw [ih]
theorem flat3_take (L : List Ent) (k : Nat) : flat3 L = flat3 (L.take k) ++ flat3 (L.drop k) := by rw [← flat3_append, List.take_append_drop]

/-- Whole numbers that lie somewhere stay. -/
def IntsKept (w w' : World) : Prop := ∀ a x, w.cell? a = some (.int .i64 x) → w'.cell? a = some (.int .i64 x)
theorem IntsKept.refl (w : World) : IntsKept w w := fun _ _ h => h
theorem IntsKept.trans {w w' w'' : World} (h : IntsKept w w') (h' : IntsKept w' w'') : IntsKept w w'' := fun a x e => h' a x (h a x e)
theorem IntsKept.of_below {w w' : World} (h : Below w.heap.size w w') : IntsKept w w' := fun a x e => by rw [h.cell (cell_lt e)]; exact e
theorem IntsKept.set {w : World} {a : Addr} {v y : Value} (hv : w.cell? a = some v) (hn : ∀ x, v ≠ .int .i64 x) : IntsKept w (w.setCell a y) := fun b x e => by
  by_cases h : b = a
  · subst h; rw [hv] at e; exact absurd (Option.some.inj e) (hn x)
  · rw [World.cell?_setCell_other _ _ _ _ (Ne.symm h)]; exact e
theorem IntsAt.kept {w w' : World} {v : Value} {l : List Nat} (h : IntsAt w v l) (hk : IntsKept w w') : IntsAt w' v l := by
  rcases h with h | ⟨b, o, cap, h1, h2, h3, h4⟩
  · exact Or.inl h
  · exact Or.inr ⟨b, o, cap, h1, h2, h3, fun i hi => hk _ _ (h4 i hi)⟩
theorem BigAt.kept {w w' : World} {v : Value} {n : Nat} (h : BigAt w v n) (hk : IntsKept w w') : BigAt w' v n := by
  obtain ⟨l, h1, h2, h3, h4⟩ := h
  exact ⟨l, h1, h2, h3, h4.kept hk⟩
theorem RatioAt.kept {w w' : World} {v : Value} {n : Int} {d : Nat} (h : RatioAt w v n d) (hk : IntsKept w w') : RatioAt w' v n d := by
  obtain ⟨u, q, h1, h2, h3⟩ := h
  exact ⟨u, q, h1, h2.kept hk, h3.kept hk⟩

/-- The pointer's own block, and that of its coefficients. -/
def Mine (B : Nat) (w : World) (k : Nat) : Prop := k = B ∨ ∃ n cap, w.cell? ⟨B, 1, none⟩ = some (.slice (some ⟨k, 0, none⟩) n cap)
/-- No other block has changed. -/
structure Moved (B : Nat) (w w' : World) : Prop where
  size : w.heap.size ≤ w'.heap.size
  block : ∀ k, k < w.heap.size → ¬ Mine B w k → w'.heap[k]? = w.heap[k]? ∧ ¬ Mine B w' k
theorem Moved.refl (B : Nat) (w : World) : Moved B w w := ⟨Nat.le_refl _, fun _ _ h => ⟨rfl, h⟩⟩
theorem Moved.trans {B : Nat} {w w' w'' : World} (h : Moved B w w') (h' : Moved B w' w'') : Moved B w w'' :=
  ⟨Nat.le_trans h.size h'.size, fun k hk hm => by
    obtain ⟨h1, h2⟩ := h.block k hk hm
    obtain ⟨h3, h4⟩ := h'.block k (Nat.lt_of_lt_of_le hk h.size) h2
    exact ⟨h3.trans h1, h4⟩⟩
theorem Moved.of_below {B : Nat} {w w' : World} (h : Below w.heap.size w w') (hB : B < w.heap.size) : Moved B w w' :=
  ⟨h.size, fun k hk hm => ⟨h.block k hk, fun h' => hm (by
    rcases h' with h' | ⟨n, cap, h'⟩
    · exact Or.inl h'
    · exact Or.inr ⟨n, cap, by rw [← h']; exact (h.cell (p := ⟨B, 1, none⟩) hB).symm⟩)⟩⟩
theorem Moved.cell {B : Nat} {w w' : World} (h : Moved B w w') {a : Addr} (ha : a.block < w.heap.size) (hm : ¬ Mine B w a.block) : w'.cell? a = w.cell? a := World.cell?_of_block (h.block _ ha hm).1

theorem ownsRow_past {w w' : World} {base e size n : Nat} {v : Value} {xs : List Value} (h : w.ownsRow base e size v n xs) (hb : Below w.heap.size w w') : w'.ownsRow base e size v n xs :=
  h.kept (row := none) ⟨hb.os, hb.tape, hb.output, hb.size, fun k hk _ => hb.block k hk⟩ (by cases hv : v.ownBlock <;> simp)
structure WideAt (base M : Nat) (W : World) (B : Nat) (vp vc : Value) (L : List Ent) : Prop where
  hB : base ≤ B
  cp : W.cell? ⟨B, 0, none⟩ = some vp
  cc : W.cell? ⟨B, 1, none⟩ = some vc
  f0 : W.frozen? ⟨B, 0, none⟩ = false
  f1 : W.frozen? ⟨B, 1, none⟩ = false
  P : W.ownsRow base 3 1 vp L.length (digCells (primes L))
  C : W.ownsRow base 57 3 vc L.length (flat3 L)
  R : ∀ e ∈ L, RatioAt W e.val (lowN M e.z) (lowD M e.z)
  nil : L = [] → vp = .slice none 0 0 ∧ vc = .slice none 0 0
theorem WideAt.lt {base M : Nat} {W : World} {B : Nat} {vp vc : Value} {L : List Ent} (h : WideAt base M W B vp vc L) : B < W.heap.size := cell_lt h.cp
theorem WideAt.later {base M : Nat} {W W' : World} {B : Nat} {vp vc : Value} {L : List Ent} (h : WideAt base M W B vp vc L) (hb : Below W.heap.size W W') : WideAt base M W' B vp vc L :=
  ⟨h.hB, (cell_past h.cp hb).2, (cell_past h.cc hb).2, (frozen_past h.cp h.f0 hb).2, (frozen_past h.cc h.f1 hb).2, ownsRow_past h.P hb, ownsRow_past h.C hb, fun e he => (h.R e he).later hb, h.nil⟩
/-- A fraction's three values. -/
theorem RatioAt.parts {w : World} {v : Value} {n : Int} {d : Nat} (h : RatioAt w v n d) : ∃ s ad l cap ad' l' cap', v = .agg #[.bool s, .slice ad l cap, .slice ad' l' cap'] := by
  obtain ⟨u, q, rfl, h1, h2⟩ := h
  obtain ⟨ad, l, cap, rfl, _⟩ := h1.len
  obtain ⟨ad', l', cap', rfl, _⟩ := h2.len
  exact ⟨_, _, _, _, _, _, _, rfl⟩
theorem Ent.parts {w : World} {e : Ent} {n : Int} {d : Nat} (h : RatioAt w e.val n d) : ∃ s ad l cap ad' l' cap', e.x = .bool s ∧ e.y = .slice ad l cap ∧ e.q = .slice ad' l' cap' := by
  obtain ⟨s, ad, l, cap, ad', l', cap', h⟩ := h.parts
  unfold Ent.val at h
  simp at h
  exact ⟨s, ad, l, cap, ad', l', cap', h⟩
theorem WideAt.no_ints {base M : Nat} {W : World} {B : Nat} {vp vc : Value} {L : List Ent} (h : WideAt base M W B vp vc L) : ∀ u ∈ flat3 L, (∀ x, u ≠ .int .i64 x) ∧ u.oneCell' = true := fun u hu => by
  obtain ⟨e, he, hu⟩ := flat3_mem L u hu
  obtain ⟨s, ad, l, cap, ad', l', cap', h1, h2, h3⟩ := Ent.parts (h.R e he)
  rcases hu with rfl | rfl | rfl
  · rw [h1]; exact ⟨(fun x e => by cases e), rfl⟩
  · rw [h2]; exact ⟨(fun x e => by cases e), rfl⟩
  · rw [h3]; exact ⟨(fun x e => by cases e), rfl⟩
theorem grownBy_set (w : World) (a : Addr) (u : Value) : w.grownBy (w.setCell a u) (some a.block) := ⟨rfl, rfl, rfl, by simp, fun k _ hk => heap_setCell_other w a k u (fun e => hk (by simp [e]))⟩
theorem src_left {W : World} {base e size g n cap : Nat} {A B : List Value} (h : W.ownsRow base e size (.slice (some ⟨g, 0, none⟩) n cap) n (A ++ B)) : ∀ j u, A[j]? = some u → ∃ a', some (⟨g, 0, none⟩ : Addr) = some a' ∧ W.cell? (a'.add j) = some u := fun j u hu => by
  have hlt : j < A.length := (List.getElem?_eq_some_iff.1 hu).1
  have hl := h.1
  rw [List.length_append] at hl
  refine ⟨_, rfl, ?_⟩
  rw [add_plain, Nat.zero_add, h.cellAt j (by omega), List.getElem?_append_left hlt]
  exact hu
theorem src_right {W : World} {base e size g n cap : Nat} {A B : List Value} (h : W.ownsRow base e size (.slice (some ⟨g, 0, none⟩) n cap) n (A ++ B)) {o : Nat} (ho : A.length = o) : ∀ j u, B[j]? = some u → ∃ a', some (⟨g, o, none⟩ : Addr) = some a' ∧ W.cell? (a'.add j) = some u := fun j u hu => by
  have hlt : j < B.length := (List.getElem?_eq_some_iff.1 hu).1
  have hl := h.1
  rw [List.length_append] at hl
  refine ⟨_, rfl, ?_⟩
  rw [add_plain, h.cellAt (o + j) (by omega), List.getElem?_append_right (by omega), ← ho, Nat.add_sub_cancel_left]
  exact hu
theorem src_right_if {W : World} {base e size g n cap m : Nat} {A B : List Value} (h : W.ownsRow base e size (.slice (some ⟨g, 0, none⟩) n cap) n (A ++ B)) {o : Nat} (ho : A.length = o) (hm : cap = m → B = []) : ∀ j u, B[j]? = some u → ∃ a', (if cap = m then some (⟨g, 0, none⟩ : Addr) else some ⟨g, o, none⟩) = some a' ∧ W.cell? (a'.add j) = some u := fun j u hu => by
  by_cases hc : cap = m
  · rw [hm hc] at hu; simp at hu
  · rw [if_neg hc]; exact src_right h ho j u hu
theorem three_new_past {w W : World} {x y z : Value} {t : TypeId} (hb : Below (w.alloc (.cells #[x, y, z] t)).heap.size (w.alloc (.cells #[x, y, z] t)) W) : W.cell? ⟨w.heap.size, 0, none⟩ = some x ∧ W.cell? ⟨w.heap.size, 1, none⟩ = some y ∧ W.cell? ⟨w.heap.size, 2, none⟩ = some z := by
  refine ⟨(cell_past ?_ hb).2, (cell_past ?_ hb).2, (cell_past ?_ hb).2⟩
  · rw [World.cell?_alloc_at _ _ _ _ rfl]; rfl
  · rw [World.cell?_alloc_at _ _ _ _ rfl]; rfl
  · rw [World.cell?_alloc_at _ _ _ _ rfl]; rfl
theorem src_new (w : World) (cs : Array Value) (t : TypeId) : ∀ j u, cs.toList[j]? = some u → ∃ a', some (⟨w.heap.size, 0, none⟩ : Addr) = some a' ∧ (w.alloc (.cells cs t)).cell? (a'.add j) = some u := fun j u hu => by
  refine ⟨_, rfl, ?_⟩
  rw [add_plain, Nat.zero_add, World.cell?_alloc_at _ _ _ _ rfl]
  simpa using hu
theorem dig_cut (l : List Nat) (k : Nat) : digCells l = digCells (l.take k) ++ digCells (l.drop k) := by
  unfold digCells
  rw [← List.map_append, List.take_append_drop]
theorem primes_join (A B : List Ent) : primes (A ++ B) = primes A ++ primes B := by unfold primes; rw [List.map_append]
theorem absL_join (A B : List Ent) : absL (A ++ B) = absL A ++ absL B := by unfold absL; rw [List.map_append]
theorem cell_set0 {W : World} {B : Nat} {v vc u : Value} (hp : W.cell? ⟨B, 0, none⟩ = some v) (hc : W.cell? ⟨B, 1, none⟩ = some vc) : (W.setCell ⟨B, 0, none⟩ u).cell? ⟨B, 0, none⟩ = some u ∧ (W.setCell ⟨B, 0, none⟩ u).cell? ⟨B, 1, none⟩ = some vc := ⟨World.cell?_setCell_same _ _ _ hp, by rw [World.cell?_setCell_other _ _ _ _ (by simp)]; exact hc⟩

/-- A prime more, laid between the others. -/
theorem wide_insert {base M B k n c3 c6 : Nat} {W1 w4 W2 w7 : World} {vp vc : Value} {L : List Ent} {e : Ent} {ad3 ad6 : Option Addr} (h : WideAt base M W1 B vp vc L) (hb4 : Below W1.heap.size W1 w4)
    (hP : w4.ownsRow W1.heap.size 3 1 (.slice ad3 n c3) n (digCells (primes (L.take k)) ++ [.int .i64 (e.p : Int)] ++ digCells (primes (L.drop k)))) (hW2 : W2 = w4.setCell ⟨B, 0, none⟩ (.slice ad3 n c3)) (hb7 : Below W2.heap.size W2 w7)
    (hC : w7.ownsRow W2.heap.size 57 3 (.slice ad6 n c6) n (flat3 (L.take k) ++ [e.x, e.y, e.q] ++ flat3 (L.drop k))) (hR : RatioAt W1 e.val (lowN M e.z) (lowD M e.z)) :
    WideAt base M (w7.setCell ⟨B, 1, none⟩ (.slice ad6 n c6)) B (.slice ad3 n c3) (.slice ad6 n c6) (L.take k ++ e :: L.drop k) ∧ IntsKept W1 (w7.setCell ⟨B, 1, none⟩ (.slice ad6 n c6)) ∧ Moved B W1 (w7.setCell ⟨B, 1, none⟩ (.slice ad6 n c6)) ∧ Below base W1 (w7.setCell ⟨B, 1, none⟩ (.slice ad6 n c6)) := by
  have h4 := h.later hb4
  have hB1 := h.lt
  obtain ⟨q0, q1⟩ := cell_set0 (u := .slice ad3 n c3) h4.cp h4.cc
  rw [← hW2] at q0 q1
  have hf0 : W2.frozen? ⟨B, 0, none⟩ = false := by rw [hW2, World.frozen?_setCell]; exact h4.f0
  have hf1 : W2.frozen? ⟨B, 1, none⟩ = false := by rw [hW2, World.frozen?_setCell]; exact h4.f1
  have hsz2 : W2.heap.size = w4.heap.size := by rw [hW2]; simp
  have hs4 := hb4.size
  have hs7 := hb7.size
  have hBb := h.hB
  have hn : n = L.length + 1 := by
    have h1 := hC.1
    have h2 := flat3_length L
    rw [flat3_take L k, List.length_append] at h2
    simp only [List.length_append, List.length_cons, List.length_nil] at h1
    omega
  obtain ⟨g3, cap3, e3, hg3, _⟩ := hP.form (by omega)
  obtain ⟨g6, cap6, e6, hg6, hg6'⟩ := hC.form (by omega)
  have hK4 : IntsKept W1 w4 := IntsKept.of_below hb4
  obtain ⟨vps, hvps⟩ : ∃ a c, vp = .slice a L.length c := by
    rcases h.P.2 with ⟨rfl, h0⟩ | ⟨g, cap, cur, rfl, _⟩
    · exact ⟨none, 0, by rw [h0]⟩
    · exact ⟨_, _, rfl⟩
  obtain ⟨vpc, rfl⟩ := hvps
  obtain ⟨vcs, hvcs⟩ : ∃ a c, vc = .slice a L.length c := by
    rcases h.C.2 with ⟨rfl, h0⟩ | ⟨g, cap, cur, rfl, _⟩
    · exact ⟨none, 0, by rw [h0]⟩
    · exact ⟨_, _, rfl⟩
  obtain ⟨vcc, rfl⟩ := hvcs
  have hK2 : IntsKept W1 W2 := hK4.trans (by rw [hW2]; exact IntsKept.set h4.cp (fun x e => by cases e))
  have hK7 : IntsKept W1 w7 := hK2.trans (IntsKept.of_below hb7)
  have r1 := (cell_past q1 hb7).2
  have r0 := (cell_past q0 hb7).2
  have hK8 : IntsKept W1 (w7.setCell ⟨B, 1, none⟩ (.slice ad6 n c6)) := hK7.trans (IntsKept.set r1 (fun x e => by cases e))
  have hlen : (L.take k ++ e :: L.drop k).length = n := by
    have : (L.take k).length + (L.drop k).length = L.length := by rw [← List.length_append, List.take_append_drop]
    simp only [List.length_append, List.length_cons]
    omega
  have hP7 : w7.ownsRow W1.heap.size 3 1 (.slice ad3 n c3) n (digCells (primes (L.take k)) ++ [.int .i64 (e.p : Int)] ++ digCells (primes (L.drop k))) := by
    refine ownsRow_past ?_ hb7
    rw [hW2]
    refine hP.kept (grownBy_set _ _ _) (Or.inr ?_)
    rw [e3]
    simp [Value.ownBlock]
    omega
  refine ⟨⟨hBb, ?_, ?_, ?_, ?_, ?_, ?_, ?_, ?_⟩, hK8, ⟨?_, ?_⟩, ?_⟩
  · rw [World.cell?_setCell_other _ _ _ _ (by simp)]; exact r0
  · exact World.cell?_setCell_same _ _ _ r1
  · rw [World.frozen?_setCell]; exact (frozen_past q0 hf0 hb7).2
  · rw [World.frozen?_setCell]; exact (frozen_past q1 hf1 hb7).2
  · rw [hlen]
    have h1 := hP7.mono (show base ≤ W1.heap.size by omega)
    have h2 := h1.kept (grownBy_set w7 ⟨B, 1, none⟩ (.slice ad6 n c6)) (Or.inr (by rw [e3]; simp [Value.ownBlock]; omega))
    rw [primes_join]
    simpa [digCells, primes] using h2
  · rw [hlen]
    have h1 := hC.mono (show base ≤ W2.heap.size by omega)
    have h2 := h1.kept (grownBy_set w7 ⟨B, 1, none⟩ (.slice ad6 n c6)) (Or.inr (by rw [e6]; simp [Value.ownBlock]; omega))
    rw [flat3_append]
    simpa [flat3] using h2
  · intro f hf
    have : f = e ∨ f ∈ L := by
      rcases List.mem_append.1 hf with h1 | h1
      · exact Or.inr (List.mem_of_mem_take h1)
      · rcases List.mem_cons.1 h1 with h1 | h1
        · exact Or.inl h1
        · exact Or.inr (List.mem_of_mem_drop h1)
    rcases this with rfl | hf
    · exact hR.kept hK8
    · exact (h.R f hf).kept hK8
  · intro h0
    have := congrArg List.length h0
    rw [hlen] at this
    simp at this
    omega
  · simp; omega
  · intro j hj hm
    have hjB : j ≠ B := fun e => hm (Or.inl e)
    refine ⟨?_, fun h' => ?_⟩
    · rw [heap_setCell_other w7 ⟨B, 1, none⟩ j _ hjB, hb7.block j (by omega), hW2, heap_setCell_other w4 ⟨B, 0, none⟩ j _ hjB, hb4.block j hj]
    · rcases h' with h' | ⟨n', cap', h'⟩
      · exact hjB h'
      · rw [World.cell?_setCell_same _ _ _ r1, e6] at h'
        have h8 : g6 = j := by injection h' with h'; injection h' with h'; injection h' with h'; injection h'
        omega
  · have b1 : Below base W1 w4 := hb4.mono (by omega)
    have b2 : Below base W1 W2 := by rw [hW2]; exact b1.setCell hBb _
    exact (b2.trans (hb7.mono (by omega))).setCell hBb _
/-- The place among the primes. -/
theorem primes_at {L : List Ent} {i : Nat} (h : i < L.length) : (primes L).getD i 0 = (L[i]).p := by simp [primes, List.getD, h]
theorem take_less {L : List Ent} {k p : Nat} (h : ∀ i, i < k → (primes L).getD i 0 < p) : ∀ e ∈ absL (L.take k), e.1 < (p : Int) := fun e he => by
  unfold absL at he
  obtain ⟨f, hf, rfl⟩ := List.mem_map.1 he
  obtain ⟨i, hi, rfl⟩ := List.getElem_of_mem hf
  have hi' := hi
  rw [List.length_take] at hi'
  have := h i (by omega)
  rw [primes_at (by omega)] at this
  rw [List.getElem_take]
  simp only
  omega
theorem rising_drop {L : List Ent} (hr : Rising (absL L)) {k p : Nat} (hk : k < L.length) (h : p < (L[k]).p) : ∀ e ∈ absL (L.drop k), (p : Int) < e.1 := fun e he => by
  have e1 : L.drop k = L[k] :: L.drop (k + 1) := List.drop_eq_getElem_cons hk
  have h1 : Rising (absL (L.drop k)) := by
    have : absL (L.drop k) = (absL L).drop k := by unfold absL; rw [List.map_drop]
    rw [this]
    exact hr.sublist (List.drop_sublist _ _)
  rw [e1] at he h1
  have h2 := List.pairwise_cons.1 (show List.Pairwise (fun a b : Int × Int => a.1 < b.1) (((L[k]).p, (L[k]).z) :: absL (L.drop (k + 1))) from h1)
  rcases List.mem_cons.1 (show e ∈ (((L[k]).p : Int), (L[k]).z) :: absL (L.drop (k + 1)) from he) with rfl | h3
  · simp only; omega
  · have := h2.1 e h3
    simp only at this
    omega
theorem put_between {L : List Ent} {k p : Nat} {x y q : Value} {z : Int} (hr : Rising (absL L)) (hlt : ∀ i, i < k → (primes L).getD i 0 < p) (hge : k < L.length → p ≤ (primes L).getD k 0) (hne : false = true ↔ (k < L.length ∧ (primes L).getD k 0 = p)) : Put (absL L) (absL (L.take k ++ ⟨p, x, y, q, z⟩ :: L.drop k)) p z := by
  have e1 : absL L = absL (L.take k) ++ absL (L.drop k) := by rw [← absL_join, List.take_append_drop]
  rw [absL_join]
  rw [e1] at hr ⊢
  refine put_new hr (take_less hlt) ?_
  rcases Nat.lt_or_ge k L.length with hk | hk
  · have h1 := hge hk
    have h2 : (primes L).getD k 0 ≠ p := fun h => by have := hne.2 ⟨hk, h⟩; cases this
    rw [primes_at hk] at h1 h2
    have h3 : p < (L[k]).p := by omega
    exact rising_drop (by rw [e1]; exact hr) hk h3
  · rw [List.drop_eq_nil_of_le hk]
    intro e he
    simp [absL] at he
theorem WideAt.apart {base M : Nat} {W : World} {B gp gc capp capc : Nat} {L : List Ent} (h : WideAt base M W B (.slice (some ⟨gp, 0, none⟩) L.length capp) (.slice (some ⟨gc, 0, none⟩) L.length capc) L) (hL : 0 < L.length) : gc ≠ B ∧ gp ≠ gc := by
  obtain ⟨e0, he0⟩ : ∃ e0, L[0]? = some e0 := ⟨_, List.getElem?_eq_getElem hL⟩
  have h7 := (flat3_at L 0 e0 he0).1
  obtain ⟨s', _, _, _, _, _, _, h8, _⟩ := Ent.parts (h.R e0 (List.mem_of_getElem? he0))
  rw [Nat.zero_mul] at h7
  have h5 := h.C.cellAt 0 (by omega)
  rw [h7, h8] at h5
  refine ⟨fun e => ?_, fun e => ?_⟩
  · have h6 := h.cp
    rw [e] at h5
    rw [h6] at h5
    cases h5
  · have h6 := h.P.cellAt 0 (by omega)
    rw [e, h5, digCells_get (by unfold primes; simpa using hL)] at h6
    cases h6
/-- A prime's coefficient, laid anew. -/
theorem wide_store {base M B k gp gc capp capc : Nat} {W1 w5 : World} {L : List Ent} {e : Ent} (h : WideAt base M W1 B (.slice (some ⟨gp, 0, none⟩) L.length capp) (.slice (some ⟨gc, 0, none⟩) L.length capc) L) (hk : k < L.length) (hb5 : Below W1.heap.size W1 w5) (hp : e.p = (L[k]).p) (hR : RatioAt w5 e.val (lowN M e.z) (lowD M e.z)) :
    WideAt base M (((w5.setCell ⟨gc, k * 3, none⟩ e.x).setCell ⟨gc, k * 3 + 1, none⟩ e.y).setCell ⟨gc, k * 3 + 2, none⟩ e.q) B (.slice (some ⟨gp, 0, none⟩) L.length capp) (.slice (some ⟨gc, 0, none⟩) L.length capc) (L.set k e) ∧ IntsKept W1 (((w5.setCell ⟨gc, k * 3, none⟩ e.x).setCell ⟨gc, k * 3 + 1, none⟩ e.y).setCell ⟨gc, k * 3 + 2, none⟩ e.q) ∧ Moved B W1 (((w5.setCell ⟨gc, k * 3, none⟩ e.x).setCell ⟨gc, k * 3 + 1, none⟩ e.y).setCell ⟨gc, k * 3 + 2, none⟩ e.q) ∧ Below base W1 (((w5.setCell ⟨gc, k * 3, none⟩ e.x).setCell ⟨gc, k * 3 + 1, none⟩ e.y).setCell ⟨gc, k * 3 + 2, none⟩ e.q) := by
  have h5 := h.later hb5
  have hL : 0 < L.length := by omega
  obtain ⟨hgB, hgp⟩ := h5.apart hL
  have hBb := h.hB
  obtain ⟨t1, g1⟩ := h5.C.stored (k * 3) e.x
  obtain ⟨t2, g2⟩ := t1.stored (k * 3 + 1) e.y
  obtain ⟨t3, g3⟩ := t2.stored (k * 3 + 2) e.q
  rw [flat3_set L k e hk] at t3
  obtain ⟨f, hf⟩ : ∃ f, L[k]? = some f := ⟨_, List.getElem?_eq_getElem hk⟩
  obtain ⟨x0, x1, x2⟩ := flat3_at L k f hf
  have hfl := flat3_length L
  have y0 := h5.C.cellAt (k * 3) (by omega)
  have y1 := h5.C.cellAt (k * 3 + 1) (by omega)
  have y2 := h5.C.cellAt (k * 3 + 2) (by omega)
  rw [x0] at y0
  rw [x1] at y1
  rw [x2] at y2
  obtain ⟨_, _, _, _, _, _, _, z0, z1, z2⟩ := Ent.parts (h5.R f (List.mem_of_getElem? hf))
  have k5 : IntsKept W1 w5 := IntsKept.of_below hb5
  have k6 := k5.trans (IntsKept.set (y := e.x) y0 (fun x e => by rw [z0] at e; cases e))
  have y1' : (w5.setCell ⟨gc, k * 3, none⟩ e.x).cell? ⟨gc, k * 3 + 1, none⟩ = some f.y := by rw [World.cell?_setCell_other _ _ _ _ (by simp)]; exact y1
  have k7 := k6.trans (IntsKept.set (y := e.y) y1' (fun x e => by rw [z1] at e; cases e))
  have y2' : ((w5.setCell ⟨gc, k * 3, none⟩ e.x).setCell ⟨gc, k * 3 + 1, none⟩ e.y).cell? ⟨gc, k * 3 + 2, none⟩ = some f.q := by rw [World.cell?_setCell_other _ _ _ _ (by simp), World.cell?_setCell_other _ _ _ _ (by simp)]; exact y2
  have k8 := k7.trans (IntsKept.set (y := e.q) y2' (fun x e => by rw [z2] at e; cases e))
  have kR : IntsKept w5 (((w5.setCell ⟨gc, k * 3, none⟩ e.x).setCell ⟨gc, k * 3 + 1, none⟩ e.y).setCell ⟨gc, k * 3 + 2, none⟩ e.q) := ((IntsKept.set (y := e.x) y0 (fun x e => by rw [z0] at e; cases e)).trans (IntsKept.set (y := e.y) y1' (fun x e => by rw [z1] at e; cases e))).trans (IntsKept.set (y := e.q) y2' (fun x e => by rw [z2] at e; cases e))
  have hcell : ∀ (b j : Nat), b ≠ gc → (((w5.setCell ⟨gc, k * 3, none⟩ e.x).setCell ⟨gc, k * 3 + 1, none⟩ e.y).setCell ⟨gc, k * 3 + 2, none⟩ e.q).cell? ⟨b, j, none⟩ = w5.cell? ⟨b, j, none⟩ := fun b j hb => by
    rw [World.cell?_setCell_far _ _ _ _ (Ne.symm hb), World.cell?_setCell_far _ _ _ _ (Ne.symm hb), World.cell?_setCell_far _ _ _ _ (Ne.symm hb)]
  have hgb : base ≤ gc := by
    rcases h5.C.2 with ⟨h, _⟩ | ⟨g, cap, cur, h, hb, _⟩
    · cases h
    · have : gc = g := by injection h with h; injection h with h; injection h
      omega
  have hpr : primes (L.set k e) = primes L := by
    unfold primes
    refine List.ext_getElem (by simp) fun i h1 h2 => ?_
    simp only [List.getElem_map, List.getElem_set]
    split
    · rename_i he; subst he; exact hp
    · rfl
  refine ⟨⟨hBb, ?_, ?_, ?_, ?_, ?_, ?_, ?_, ?_⟩, k8, ⟨?_, ?_⟩, ?_⟩
  · rw [hcell _ _ (Ne.symm hgB)]; exact h5.cp
  · rw [hcell _ _ (Ne.symm hgB)]; exact h5.cc
  · rw [World.frozen?_setCell, World.frozen?_setCell, World.frozen?_setCell]; exact h5.f0
  · rw [World.frozen?_setCell, World.frozen?_setCell, World.frozen?_setCell]; exact h5.f1
  · rw [hpr, List.length_set]
    have hne : ∀ v : Value, v = .slice (some ⟨gp, 0, none⟩) L.length capp → v.ownBlock = none ∨ v.ownBlock ≠ some gc := fun v hv => by rw [hv]; exact Or.inr (by simp [Value.ownBlock]; exact hgp)
    exact ((h5.P.kept g1 (hne _ rfl)).kept g2 (hne _ rfl)).kept g3 (hne _ rfl)
  · rw [List.length_set]; exact t3
  · intro a ha
    rcases List.mem_or_eq_of_mem_set ha with ha | rfl
    · exact (h.R a ha).kept k8
    · exact hR.kept kR
  · intro h0
    have := congrArg List.length h0
    rw [List.length_set, List.length_nil] at this
    omega
  · have := hb5.size
    simp; omega
  · intro j hj hm
    have hjg : j ≠ gc := fun e => hm (Or.inr ⟨_, _, by rw [e]; exact h.cc⟩)
    refine ⟨?_, fun h' => hm ?_⟩
    · rw [heap_setCell_other _ ⟨gc, _, none⟩ j _ hjg, heap_setCell_other _ ⟨gc, _, none⟩ j _ hjg, heap_setCell_other _ ⟨gc, _, none⟩ j _ hjg, hb5.block j hj]
    · rcases h' with h' | ⟨n', cap', h'⟩
      · exact Or.inl h'
      · rw [hcell _ _ (Ne.symm hgB), h5.cc, ← h.cc] at h'
        exact Or.inr ⟨_, _, h'⟩
  · exact (((hb5.mono (by have := h.lt; omega)).setCell hgb _).setCell hgb _).setCell hgb _
theorem put_at {L : List Ent} {k p : Nat} {x y q : Value} {z : Int} (hr : Rising (absL L)) (hk : k < L.length) (hp : (primes L).getD k 0 = p) : Put (absL L) (absL (L.set k ⟨p, x, y, q, (L[k]).z + z⟩)) p z := by
  have e1 : L = L.take k ++ L[k] :: L.drop (k + 1) := by
    rw [← List.drop_eq_getElem_cons hk, List.take_append_drop]
  have e2 : L.set k ⟨p, x, y, q, (L[k]).z + z⟩ = L.take k ++ ⟨p, x, y, q, (L[k]).z + z⟩ :: L.drop (k + 1) := List.set_eq_take_append_cons_drop.trans (by rw [if_pos hk])
  have hpk : (L[k]).p = p := by rw [← primes_at hk]; exact hp
  have e3 : absL L = absL (L.take k) ++ ((p : Int), (L[k]).z) :: absL (L.drop (k + 1)) := by
    conv => lhs; rw [e1]
    rw [absL_join, ← hpk]
    rfl
  rw [e2, absL_join]
  rw [e3] at hr ⊢
  exact put_found hr
end Go.Proofs.YtklhfagcembigaaGreatDoor
