/- chain.fold: how it begins. -/
import Derived.Test.YtlmehmbipbkeiaaDoorVisitsW
namespace Go.Proofs.YtlmehmbipbkeiaaDoor
open Go.RowKit

/-- make, at a step of a region that draws its order. -/
theorem step_make (w : World) {P : Program} {ops : Array Oper} {o : Oper} {a : Act} {K : Act → World → Prop} {Q : Exit → Act → World → Prop} {E : Prop} (hgd : o.guard = none)
    (l c : Operand) (t : TypeId) (hop : o.op = Op.makeSlice t l c) (e : TypeId) (i : TypeInfo) (z : Value) (h1 : P.underlying t = some (.slice e)) (h2 : P.info? e = some i) (h3 : i.zero = some z) (h4 : i.size = 1)
    (n : Nat) (hl : a.eval l = .int .i64 n) (hc : a.eval c = .int .i64 n) (b2 : i.bytes * n ≤ 281474976710656) (b3 : n ≤ maxLen)
    (hK : ∀ w', w'.ownsRow w.heap.size e 1 (.slice (some ⟨w.heap.size, 0, none⟩) n n) n (madeCells z.cells (n * 1)).toList → w.grownBy w' none → K (a.put o.dst (.slice (some ⟨w.heap.size, 0, none⟩) n n)) w') :
    if Region.wanted o (yielded ops a.tmps) = true then Oper.wp P o a w K Q else E := by
  have hw : Region.wanted o (yielded ops a.tmps) = true := by simp [Region.wanted, hgd]
  rw [if_pos hw]
  obtain ⟨w', hrun, r1, r2⟩ := run_make_full (P := P) w w.heap.size t e i z 1 h1 h2 h3 h4 .i64 .i64 n b2 b3 (Nat.le_refl _)
  unfold Oper.wp
  simp [execOp, hop, hl, hc, hrun, Result.andThen]
  exact hK w' r1 r2

/-- What is made already: the list of rows, that of times, that of what goes out, and their box. -/
structure Begun (w W : World) (n : Nat) (x : Nat → Option Nat) : Prop where
  below : Below w.heap.size w W
  ge : ∀ j b, x j = some b → w.heap.size ≤ b ∧ b < W.heap.size
  ne : ∀ j j' b, j ≠ j' → x j = some b → x j' ≠ some b
  rows : ∀ j b, j < 3 → x j = some b → RowIs W b n (fun _ => .slice none 0 0)
  box : ∀ b, x 3 = some b → RowIs W b 3 (fun _ => .slice none 0 0)
theorem begun_start (w W : World) (n : Nat) (h : Below w.heap.size w W) : Begun w W n (fun _ => none) := ⟨h, fun j b hb => (by cases hb), fun j j' b _ hb => (by cases hb), fun j b _ hb => (by cases hb), fun b hb => (by cases hb)⟩
theorem Begun.row {w W W' : World} {n : Nat} {x : Nat → Option Nat} (h : Begun w W n x) (j : Nat) (hj : j < 3) (hb : Below W.heap.size W W') (hr : RowIs W' W.heap.size n (fun _ => .slice none 0 0)) (hs : W.heap.size < W'.heap.size) : Begun w W' n (fun i => if i = j then some W.heap.size else x i) := by
  refine ⟨below_chain h.below hb, fun i b hx => ?_, fun i i' b hne hx hx' => ?_, fun i b hi hx => ?_, fun b hx => ?_⟩
  · by_cases hij : i = j
    · rw [if_pos hij] at hx; obtain rfl := Option.some.inj hx; exact ⟨h.below.size, hs⟩
    · rw [if_neg hij] at hx; have := h.ge i b hx; exact ⟨this.1, by omega⟩
  · by_cases hij : i = j
    · rw [if_pos hij] at hx; rw [if_neg (by omega)] at hx'
      have := (h.ge i' b hx').2
      have := Option.some.inj hx
      omega
    · rw [if_neg hij] at hx
      by_cases hij' : i' = j
      · rw [if_pos hij'] at hx'
        have := (h.ge i b hx).2
        have := Option.some.inj hx'
        omega
      · rw [if_neg hij'] at hx'; exact h.ne i i' b hne hx hx'
  · by_cases hij : i = j
    · rw [if_pos hij] at hx; obtain rfl := Option.some.inj hx; exact hr
    · rw [if_neg hij] at hx; exact (h.rows i b hi hx).later hb
  · rw [if_neg (by omega)] at hx; exact (h.box b hx).later hb
theorem Begun.boxed {w W W' : World} {n : Nat} {x : Nat → Option Nat} (h : Begun w W n x) (hb : Below W.heap.size W W') (hr : RowIs W' W.heap.size 3 (fun _ => .slice none 0 0)) (hs : W.heap.size < W'.heap.size) : Begun w W' n (fun i => if i = 3 then some W.heap.size else x i) := by
  refine ⟨below_chain h.below hb, fun i b hx => ?_, fun i i' b hne hx hx' => ?_, fun i b hi hx => ?_, fun b hx => ?_⟩
  · by_cases hij : i = 3
    · rw [if_pos hij] at hx; obtain rfl := Option.some.inj hx; exact ⟨h.below.size, hs⟩
    · rw [if_neg hij] at hx; have := h.ge i b hx; exact ⟨this.1, by omega⟩
  · by_cases hij : i = 3
    · rw [if_pos hij] at hx; rw [if_neg (by omega)] at hx'
      have := (h.ge i' b hx').2
      have := Option.some.inj hx
      omega
    · rw [if_neg hij] at hx
      by_cases hij' : i' = 3
      · rw [if_pos hij'] at hx'
        have := (h.ge i b hx).2
        have := Option.some.inj hx'
        omega
      · rw [if_neg hij'] at hx'; exact h.ne i i' b hne hx hx'
  · rw [if_neg (by omega)] at hx; exact (h.rows i b hi hx).later hb
  · rw [if_pos rfl] at hx; obtain rfl := Option.some.inj hx; exact hr
theorem box_new (W : World) (t : TypeId) : RowIs (W.alloc (.cells #[.slice none 0 0, .slice none 0 0, .slice none 0 0] t)) W.heap.size 3 (fun _ => .slice none 0 0) :=
  ⟨fun k hk => by rcases (show k = 0 ∨ k = 1 ∨ k = 2 by omega) with rfl | rfl | rfl <;> simp, fun k hk => by simp⟩
/-- The beginning of fold: four new blocks, and the box holds the three others. -/
structure Laid3 (w W : World) (n g gt go fb : Nat) : Prop where
  below : Below w.heap.size w W
  ge : w.heap.size ≤ g ∧ w.heap.size ≤ gt ∧ w.heap.size ≤ go ∧ w.heap.size ≤ fb
  lt : g < W.heap.size ∧ gt < W.heap.size ∧ go < W.heap.size ∧ fb < W.heap.size
  ne : g ≠ gt ∧ g ≠ go ∧ g ≠ fb ∧ gt ≠ go ∧ gt ≠ fb ∧ go ≠ fb
  rw : RowIs W g n (fun _ => .slice none 0 0)
  rt : RowIs W gt n (fun _ => .slice none 0 0)
  ro : RowIs W go n (fun _ => .slice none 0 0)
  c0 : W.cell? ⟨fb, 0, none⟩ = some (.slice (some ⟨g, 0, none⟩) n n)
  c1 : W.cell? ⟨fb, 1, none⟩ = some (.slice (some ⟨gt, 0, none⟩) n n)
  c2 : W.cell? ⟨fb, 2, none⟩ = some (.slice (some ⟨go, 0, none⟩) n n)
theorem RowIs.put {W : World} {b n p k : Nat} {f : Nat → Value} {x : Value} (h : RowIs W b n f) (hx : W.cell? ⟨p, k, none⟩ = some x) (hne : b ≠ p) (y : Value) : RowIs (W.setCell ⟨p, k, none⟩ y) b n f :=
  ⟨fun j hj => by rw [cell_put _ hx, if_neg (fun e => hne (congrArg Addr.block e))]; exact h.row j hj, fun j hj => by rw [World.frozen?_setCell]; exact h.fz j hj⟩
theorem Begun.laid {w W : World} {n g gt go fb : Nat} {x : Nat → Option Nat} (h : Begun w W n x) (h0 : x 0 = some g) (h1 : x 1 = some gt) (h2 : x 2 = some go) (h3 : x 3 = some fb) :
    Laid3 w (((W.setCell ⟨fb, 0, none⟩ (.slice (some ⟨g, 0, none⟩) n n)).setCell ⟨fb, 1, none⟩ (.slice (some ⟨gt, 0, none⟩) n n)).setCell ⟨fb, 2, none⟩ (.slice (some ⟨go, 0, none⟩) n n)) n g gt go fb := by
  have hb := h.box fb h3
  have nfg : g ≠ fb := fun e => h.ne 0 3 g (by decide) h0 (e ▸ h3)
  have nft : gt ≠ fb := fun e => h.ne 1 3 gt (by decide) h1 (e ▸ h3)
  have nfo : go ≠ fb := fun e => h.ne 2 3 go (by decide) h2 (e ▸ h3)
  have a0 := hb.row 0 (by decide)
  have a1 := hb.row 1 (by decide)
  have a2 := hb.row 2 (by decide)
  have b1 : (W.setCell ⟨fb, 0, none⟩ (.slice (some ⟨g, 0, none⟩) n n)).cell? ⟨fb, 1, none⟩ = some (.slice none 0 0) := by rw [cell_put _ a0, if_neg (by simp)]; exact a1
  have b2 : ((W.setCell ⟨fb, 0, none⟩ (.slice (some ⟨g, 0, none⟩) n n)).setCell ⟨fb, 1, none⟩ (.slice (some ⟨gt, 0, none⟩) n n)).cell? ⟨fb, 2, none⟩ = some (.slice none 0 0) := by rw [cell_put _ b1, if_neg (by simp), cell_put _ a0, if_neg (by simp)]; exact a2
  refine ⟨((h.below.setCell (h.ge 3 fb h3).1 _).setCell (h.ge 3 fb h3).1 _).setCell (h.ge 3 fb h3).1 _, ⟨(h.ge 0 g h0).1, (h.ge 1 gt h1).1, (h.ge 2 go h2).1, (h.ge 3 fb h3).1⟩, ?_, ⟨fun e => h.ne 0 1 g (by decide) h0 (e ▸ h1), fun e => h.ne 0 2 g (by decide) h0 (e ▸ h2), nfg, fun e => h.ne 1 2 gt (by decide) h1 (e ▸ h2), nft, nfo⟩, (((h.rows 0 g (by decide) h0).put a0 nfg _).put b1 nfg _).put b2 nfg _, (((h.rows 1 gt (by decide) h1).put a0 nft _).put b1 nft _).put b2 nft _, (((h.rows 2 go (by decide) h2).put a0 nfo _).put b1 nfo _).put b2 nfo _, ?_, ?_, ?_⟩
  · simp only [World.size_setCell]; exact ⟨(h.ge 0 g h0).2, (h.ge 1 gt h1).2, (h.ge 2 go h2).2, (h.ge 3 fb h3).2⟩
  · rw [cell_put _ b2, if_neg (by simp), cell_put _ b1, if_neg (by simp), cell_put _ a0, if_pos rfl]
  · rw [cell_put _ b2, if_neg (by simp), cell_put _ b1, if_pos rfl]
  · rw [cell_put _ b2, if_pos rfl]
end Go.Proofs.YtlmehmbipbkeiaaDoor
