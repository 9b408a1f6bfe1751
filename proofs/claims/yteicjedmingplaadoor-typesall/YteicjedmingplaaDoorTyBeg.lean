/- types.All: how it begins: two rows and two boxes, made in whatever order. -/
import Derived.Test.YteicjedmingplaaDoorLol
import Derived.Test.YteicjedmingplaaDoorGrid
import Derived.Test.YteicjedmingplaaDoorLastOp
namespace Go.Proofs.YteicjedmingplaaDoor
open Go.RowKit

/-- make, at a step of a region that draws its order. -/
theorem tstep_make (w : World) {P : Program} {ops : Array Oper} {o : Oper} {a : Act} {K : Act → World → Prop} {Q : Exit → Act → World → Prop} {E : Prop} (hgd : o.guard = none)
    (l c : Operand) (t : TypeId) (hop : o.op = Op.makeSlice t l c) (e : TypeId) (i : TypeInfo) (z : Value) (h1 : P.underlying t = some (.slice e)) (h2 : P.info? e = some i) (h3 : i.zero = some z) (h4 : i.size = 1)
    (n : Nat) (hl : a.eval l = .int .i64 n) (hc : a.eval c = .int .i64 n) (b2 : i.bytes * n ≤ 281474976710656) (b3 : n ≤ maxLen)
    (hK : ∀ w', w'.ownsRow w.heap.size e 1 (.slice (some ⟨w.heap.size, 0, none⟩) n n) n (madeCells z.cells (n * 1)).toList → w.grownBy w' none → K (a.put o.dst (.slice (some ⟨w.heap.size, 0, none⟩) n n)) w') :
    if Region.wanted o (yielded ops a.tmps) = true then Oper.wp P o a w K Q else E := by
  have hw : Region.wanted o (yielded ops a.tmps) = true := by simp [Region.wanted, hgd]
  rw [if_pos hw]
  obtain ⟨w', hrun, r1, r2⟩ := run_make_full (P := P) w w.heap.size t e i z 1 h1 h2 h3 h4 .i64 .i64 n b2 b3 (Nat.le_refl _)
  unfold Oper.wp
  simp [execOp, hop, hl, hc, hrun, Result.andThen]
  exact hK w' r1 r2
theorem tstep_room (w : World) {P : Program} {ops : Array Oper} {o : Oper} {a : Act} {K : Act → World → Prop} {Q : Exit → Act → World → Prop} {E : Prop} (hgd : o.guard = none)
    (l c : Operand) (t : TypeId) (hop : o.op = Op.makeSlice t l c) (e : TypeId) (i : TypeInfo) (z : Value) (h1 : P.underlying t = some (.slice e)) (h2 : P.info? e = some i) (h3 : i.zero = some z) (h4 : i.size = 1)
    (n : Nat) (hl : a.eval l = .int .i64 0) (hc : a.eval c = .int .i64 n) (b2 : i.bytes * n ≤ 281474976710656) (b3 : n ≤ maxLen)
    (hK : ∀ w', w'.ownsRow w.heap.size e 1 (.slice (some ⟨w.heap.size, 0, none⟩) 0 n) 0 [] → w.grownBy w' none → K (a.put o.dst (.slice (some ⟨w.heap.size, 0, none⟩) 0 n)) w') :
    if Region.wanted o (yielded ops a.tmps) = true then Oper.wp P o a w K Q else E := by
  have hw : Region.wanted o (yielded ops a.tmps) = true := by simp [Region.wanted, hgd]
  rw [if_pos hw]
  obtain ⟨w', hrun, r1, r2⟩ := run_make_own (P := P) w w.heap.size t e i z 1 h1 h2 h3 h4 .i64 .i64 n b2 b3 (Nat.le_refl _)
  unfold Oper.wp
  simp [execOp, hop, hl, hc, hrun, Result.andThen]
  exact hK w' r1 r2
theorem row_heap {w : World} {B e s b n cap k : Nat} {xs : List Value} (h : w.ownsRow B e s (.slice (some ⟨b, 0, none⟩) n cap) k xs) : b < w.heap.size := by
  rcases h.2 with ⟨hx, _⟩ | ⟨g', cap', cur, hv, _, hh, _⟩
  · cases hx
  · obtain ⟨rfl, _⟩ : b = g' ∧ _ := by simpa using hv
    exact heap_lt hh

/-- What is made already: 0 the list, 1 the type, 2 and 3 their boxes; v is what the list's box holds. -/
structure Beg (w W : World) (kb k c : Nat) (v : Value) (x : Nat → Option Nat) : Prop where
  below : Below w.heap.size w W
  ck : W.cell? ⟨kb, 0, none⟩ = some (.int .i64 (k : Int))
  ge : ∀ j b, x j = some b → w.heap.size ≤ b ∧ b < W.heap.size
  ne : ∀ j j' b, j ≠ j' → x j = some b → x j' ≠ some b
  r0 : ∀ b, x 0 = some b → W.ownsRow w.heap.size 35 1 (.slice (some ⟨b, 0, none⟩) 0 c) 0 []
  r1 : ∀ b, x 1 = some b → RowIs W b k (fun _ => .int .i64 0)
  b2 : ∀ b, x 2 = some b → RowIs W b 1 (fun _ => v)
  b3 : ∀ b, x 3 = some b → RowIs W b 1 (fun _ => .slice none 0 0)
theorem beg_start {w W : World} {kb k c : Nat} {v : Value} (h : Below w.heap.size w W) (hk : W.cell? ⟨kb, 0, none⟩ = some (.int .i64 (k : Int))) : Beg w W kb k c v (fun _ => none) :=
  ⟨h, hk, fun j b hb => (by cases hb), fun j j' b _ hb => (by cases hb), fun b hb => (by cases hb), fun b hb => (by cases hb), fun b hb => (by cases hb), fun b hb => (by cases hb)⟩
theorem Beg.add {w W W' : World} {kb k c : Nat} {v : Value} {x : Nat → Option Nat} (h : Beg w W kb k c v x) (j : Nat) (hb : Below W.heap.size W W') (hs : W.heap.size < W'.heap.size)
    (n0 : j = 0 → W'.ownsRow w.heap.size 35 1 (.slice (some ⟨W.heap.size, 0, none⟩) 0 c) 0 []) (n1 : j = 1 → RowIs W' W.heap.size k (fun _ => .int .i64 0)) (n2 : j = 2 → RowIs W' W.heap.size 1 (fun _ => v)) (n3 : j = 3 → RowIs W' W.heap.size 1 (fun _ => .slice none 0 0)) :
    Beg w W' kb k c v (fun i => if i = j then some W.heap.size else x i) := by
  refine ⟨below_chain h.below hb, by rw [hb.cell (cell_lt h.ck)]; exact h.ck, fun i b hx => ?_, fun i i' b hne hx hx' => ?_, fun b hx => ?_, fun b hx => ?_, fun b hx => ?_, fun b hx => ?_⟩
  · by_cases hij : i = j
    · rw [if_pos hij] at hx; obtain rfl := Option.some.inj hx; exact ⟨h.below.size, hs⟩
    · rw [if_neg hij] at hx; have := h.ge i b hx; exact ⟨this.1, by omega⟩
  · by_cases hij : i = j
    · rw [if_pos hij] at hx; rw [if_neg (by omega)] at hx'
      have := (h.ge i' b hx').2
      have := Option.some.inj hx
      omega
    · rw [if_neg hij] at hx
      by_cases hij' : i' = j
      · rw [if_pos hij'] at hx'
        have := (h.ge i b hx).2
        have := Option.some.inj hx'
        omega
      · rw [if_neg hij'] at hx'; exact h.ne i i' b hne hx hx'
  · by_cases hij : 0 = j
    · rw [if_pos hij] at hx; obtain rfl := Option.some.inj hx; exact n0 hij.symm
    · rw [if_neg hij] at hx; exact own_past (h.r0 b hx) hb
  · by_cases hij : 1 = j
    · rw [if_pos hij] at hx; obtain rfl := Option.some.inj hx; exact n1 hij.symm
    · rw [if_neg hij] at hx; exact (h.r1 b hx).later hb
  · by_cases hij : 2 = j
    · rw [if_pos hij] at hx; obtain rfl := Option.some.inj hx; exact n2 hij.symm
    · rw [if_neg hij] at hx; exact (h.b2 b hx).later hb
  · by_cases hij : 3 = j
    · rw [if_pos hij] at hx; obtain rfl := Option.some.inj hx; exact n3 hij.symm
    · rw [if_neg hij] at hx; exact (h.b3 b hx).later hb
theorem Beg.add0 {w W W' : World} {kb k c : Nat} {v : Value} {x : Nat → Option Nat} (h : Beg w W kb k c v x) (ho : W'.ownsRow W.heap.size 35 1 (.slice (some ⟨W.heap.size, 0, none⟩) 0 c) 0 []) (hg : W.grownBy W' none) : Beg w W' kb k c v (fun i => if i = 0 then some W.heap.size else x i) :=
  h.add 0 (made_below hg) (row_heap ho) (fun _ => ho.mono h.below.size) (fun e => by cases e) (fun e => by cases e) (fun e => by cases e)
theorem Beg.add1 {w W W' : World} {kb k c : Nat} {v : Value} {x : Nat → Option Nat} (h : Beg w W kb k c v x) (ho : W'.ownsRow W.heap.size 3 1 (.slice (some ⟨W.heap.size, 0, none⟩) k k) k (madeCells (Value.int .i64 0).cells (k * 1)).toList) (hg : W.grownBy W' none) : Beg w W' kb k c v (fun i => if i = 1 then some W.heap.size else x i) :=
  h.add 1 (made_below hg) (row_heap ho) (fun e => by cases e) (fun _ => rowIs_made ho (made_one (.int .i64 0) rfl k)) (fun e => by cases e) (fun e => by cases e)
theorem one_box (W : World) (t : TypeId) (v : Value) : RowIs (W.alloc (.cells #[v] t)) W.heap.size 1 (fun _ => v) :=
  ⟨fun k hk => by obtain rfl : k = 0 := by omega
                  rw [World.cell?_alloc_at _ _ _ _ rfl]; rfl, fun k hk => World.frozen?_alloc_new W _ _ _⟩
theorem Beg.add2 {w W : World} {kb k c : Nat} {x : Nat → Option Nat} (h : Beg w W kb k c (.slice none 0 0) x) (t : TypeId) : Beg w (W.alloc (.cells #[.slice none 0 0] t)) kb k c (.slice none 0 0) (fun i => if i = 2 then some W.heap.size else x i) :=
  h.add 2 ((Below.refl _ _).alloc (Nat.le_refl _) _) (by simp) (fun e => by cases e) (fun e => by cases e) (fun _ => one_box W t _) (fun e => by cases e)
theorem Beg.add3 {w W : World} {kb k c : Nat} {v : Value} {x : Nat → Option Nat} (h : Beg w W kb k c v x) (t : TypeId) : Beg w (W.alloc (.cells #[.slice none 0 0] t)) kb k c v (fun i => if i = 3 then some W.heap.size else x i) :=
  h.add 3 ((Below.refl _ _).alloc (Nat.le_refl _) _) (by simp) (fun e => by cases e) (fun e => by cases e) (fun e => by cases e) (fun _ => one_box W t _)
theorem rowIs_put {W : World} {b n p k : Nat} {f : Nat → Value} {x : Value} (h : RowIs W b n f) (hx : W.cell? ⟨p, k, none⟩ = some x) (hne : b ≠ p) (y : Value) : RowIs (W.setCell ⟨p, k, none⟩ y) b n f :=
  ⟨fun j hj => by rw [put_cell _ hx, if_neg (fun e => hne (congrArg Addr.block e))]; exact h.row j hj, fun j hj => by rw [World.frozen?_setCell]; exact h.fz j hj⟩
theorem rowIs_here {W : World} {b : Nat} {x : Value} (h : RowIs W b 1 (fun _ => x)) (y : Value) : RowIs (W.setCell ⟨b, 0, none⟩ y) b 1 (fun _ => y) :=
  ⟨fun j hj => by obtain rfl : j = 0 := by omega
                  rw [put_cell _ (h.row 0 (by omega)), if_pos rfl], fun j hj => by rw [World.frozen?_setCell]; exact h.fz j hj⟩
theorem Beg.store {w W : World} {kb k c b : Nat} {v : Value} {x : Nat → Option Nat} (h : Beg w W kb k c v x) (h2 : x 2 = some b) (hkb : kb < w.heap.size) (y : Value) : Beg w (W.setCell ⟨b, 0, none⟩ y) kb k c y x := by
  have hc := h.b2 b h2
  have h0 := hc.row 0 (by omega)
  have hg := h.ge 2 b h2
  refine ⟨h.below.setCell hg.1 _, ?_, fun j b' hj => by rw [World.size_setCell]; exact h.ge j b' hj, h.ne, fun b' hb' => ?_, fun b' hb' => ?_, fun b' hb' => ?_, fun b' hb' => ?_⟩
  · rw [put_cell _ h0, if_neg (fun e => by have := congrArg Addr.block e; simp at this; omega)]; exact h.ck
  · exact own_put (h.r0 b' hb') _ _ (fun e => h.ne 0 2 b' (by decide) hb' (by have : b' = b := by simpa [Value.ownBlock] using e
                                                                              rw [this]; exact h2))
  · exact rowIs_put (h.r1 b' hb') h0 (fun e => h.ne 1 2 b' (by decide) hb' (e ▸ h2)) _
  · obtain rfl : b' = b := Option.some.inj (hb'.symm.trans h2)
    exact rowIs_here hc y
  · exact rowIs_put (h.b3 b' hb') h0 (fun e => h.ne 3 2 b' (by decide) hb' (e ▸ h2)) _
/-- All is made and stored. -/
structure Lai (w W : World) (kb k c go gt bo bt : Nat) : Prop where
  below : Below w.heap.size w W
  ck : W.cell? ⟨kb, 0, none⟩ = some (.int .i64 (k : Int))
  ge : w.heap.size ≤ go ∧ w.heap.size ≤ gt ∧ w.heap.size ≤ bo ∧ w.heap.size ≤ bt
  lt : go < W.heap.size ∧ gt < W.heap.size ∧ bo < W.heap.size ∧ bt < W.heap.size
  ne : go ≠ gt ∧ go ≠ bo ∧ go ≠ bt ∧ gt ≠ bo ∧ gt ≠ bt ∧ bo ≠ bt
  own : W.ownsRow w.heap.size 35 1 (.slice (some ⟨go, 0, none⟩) 0 c) 0 []
  row : RowIs W gt k (fun _ => .int .i64 0)
  co : RowIs W bo 1 (fun _ => .slice (some ⟨go, 0, none⟩) 0 c)
  ct : RowIs W bt 1 (fun _ => .slice (some ⟨gt, 0, none⟩) k k)
theorem Beg.lai {w W : World} {kb k c go gt bo bt : Nat} {x : Nat → Option Nat} (h : Beg w W kb k c (.slice (some ⟨go, 0, none⟩) 0 c) x) (h0 : x 0 = some go) (h1 : x 1 = some gt) (h2 : x 2 = some bo) (h3 : x 3 = some bt) (hkb : kb < w.heap.size) :
    Lai w (W.setCell ⟨bt, 0, none⟩ (.slice (some ⟨gt, 0, none⟩) k k)) kb k c go gt bo bt := by
  have hc := h.b3 bt h3
  have hr := hc.row 0 (by omega)
  have n03 : go ≠ bt := fun e => h.ne 0 3 go (by decide) h0 (e ▸ h3)
  have n13 : gt ≠ bt := fun e => h.ne 1 3 gt (by decide) h1 (e ▸ h3)
  have n23 : bo ≠ bt := fun e => h.ne 2 3 bo (by decide) h2 (e ▸ h3)
  refine ⟨h.below.setCell (h.ge 3 bt h3).1 _, ?_, ⟨(h.ge 0 go h0).1, (h.ge 1 gt h1).1, (h.ge 2 bo h2).1, (h.ge 3 bt h3).1⟩, ?_, ⟨fun e => h.ne 0 1 go (by decide) h0 (e ▸ h1), fun e => h.ne 0 2 go (by decide) h0 (e ▸ h2), n03, fun e => h.ne 1 2 gt (by decide) h1 (e ▸ h2), n13, n23⟩, ?_, rowIs_put (h.r1 gt h1) hr n13 _, rowIs_put (h.b2 bo h2) hr n23 _, rowIs_here hc _⟩
  · have := (h.ge 3 bt h3).1
    rw [put_cell _ hr, if_neg (fun e => by have := congrArg Addr.block e; simp at this; omega)]; exact h.ck
  · simp only [World.size_setCell]; exact ⟨(h.ge 0 go h0).2, (h.ge 1 gt h1).2, (h.ge 2 bo h2).2, (h.ge 3 bt h3).2⟩
  · exact own_put (h.r0 go h0) _ _ (fun e => n03 (by simpa [Value.ownBlock] using e))
end Go.Proofs.YteicjedmingplaaDoor
