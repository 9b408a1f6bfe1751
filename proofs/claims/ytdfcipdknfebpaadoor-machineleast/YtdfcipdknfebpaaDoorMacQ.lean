/- A range over a function that keeps a memory of its own: the loop's law, where the rounds' invariant speaks of what lay ahead of the loop alone. -/
import Derived.Test.YtdfcipdknfebpaaDoorMacJ
import Derived.RangeFuncWrites
namespace Go.Proofs.YtdfcipdknfebpaaDoor
open Go.RowKit

/-- How the body of a round may be left. -/
def leftBy {α : Type} (B : Nat) (I : List α → World → Prop) (Ix : Code → List α → World → Prop) (xs : List α) (W : World) : Exit → Act → World → Prop
  | .normal, _, W' => KeepA B W W' ∧ I xs W'
  | .ret, _, W' => KeepA B W W' ∧ Ix .ret xs W'
  | .exit id, _, W' => KeepA B W W' ∧ Ix (.exit id) xs W'
  | .goto t, _, W' => KeepA B W W' ∧ Ix (.goto t) xs W'
  | .panic _, _, _ => False
  | .outgrown, _, _ => False
/-- The contract of such an iterator: E is what comes. -/
def SeqOwn {α : Type} (F : Fence) (m : Nat) (P : Program) (gf : Nat) (lb : Array Value) (encs : α → Array Value) (E : List α) : Prop :=
  ∀ (l : Nat) (J Jx : List α → World → Prop) (W : World), (∀ s A B, J s A → Below W.heap.size A B → J s B) →
    (∀ pre x W1, J pre W1 → pre ++ [x] <+: E → YieldAt F (m - 1) P l (encs x) W1 fun e W' => (e = .returned (.bool true) ∧ J (pre ++ [x]) W' ∧ KeepA W.heap.size W1 W') ∨ (e = .returned (.bool false) ∧ Jx (pre ++ [x]) W')) →
    J [] W → CallsIn F m P gf (#[.func (.yield l) #[] #[]] ++ lb) W fun e W' => (∃ v, e = .returned v) ∧ (J E W' ∨ ∃ pre, pre <+: E ∧ Jx pre W')
theorem below_put {B : Nat} {W : World} {l : Nat} (o : Obj) (hl : B ≤ l) : Below B W (W.putObj l o) :=
  ⟨rfl, rfl, rfl, by simp [World.putObj], fun k hk => World.putObj_heap_other (by omega)⟩
theorem wpIn_rangeOwn {α : Type} {F : Fence} {n : Nat} {P : Program} {g : Operand} {ps : Array Tmp} {assign body : Code} {Q : Exit → Act → World → Prop} {a : Act} {w : World}
    (hro : F.round = none) (h1 : 1 ≤ n) {gf : Nat} {lb : Array Value} (hg : a.eval g = .func (.func gf) #[] lb) (hFg : F.fn gf) (eg : ∀ args w, (callFunc gf args).run P w = .ok (.enter gf args) w)
    {encs : α → Array Value} {E : List α} (hseq : SeqOwn F (n - 1) P gf lb encs E) (hps : ∀ x, (encs x).size = ps.size)
    (I : List α → World → Prop) (Ix : Code → List α → World → Prop) (hI : ∀ s A B, I s A → Below w.heap.size A B → I s B) (hIx : ∀ c s A B, Ix c s A → Below w.heap.size A B → Ix c s B) (h0 : I [] w) (a₁ : α → Act)
    (hassign : ∀ (l : Nat) (x : α) (W : World) (K : Act → World → Prop), K (a₁ x) W → assign.wpIn (F.inRound l) (n - 1 - 1) P (Exit.then K (fun _ _ _ => False)) { tmps := (ps.zip (encs x)).foldl (fun t (p, v) => t.setIfInBounds p v) a.tmps, defers := [] } W)
    (hbody : ∀ (l : Nat) (pre : List α) (x : α) (W : World), I pre W → pre ++ [x] <+: E → w.heap.size ≤ W.heap.size → body.wpIn (F.inRound l) (n - 1 - 1) P (leftBy w.heap.size I Ix (pre ++ [x]) W) (a₁ x) W)
    (hdone : ∀ (D : Nat) (W : World), w.heap.size ≤ D → I E W → W.heap[D]? = some (.deferred (some [])) → Q .normal { a with defers := { target := .collected D, args := #[] } :: a.defers } W)
    (hstop : ∀ (D : Nat) (c : Code) (pre : List α) (W : World), w.heap.size ≤ D → pre <+: E → Ix c pre W → W.heap[D]? = some (.deferred (some [])) → c.wpIn F n P Q { a with defers := { target := .collected D, args := #[] } :: a.defers } W) :
    (Code.rangeFunc g ps assign body).wpIn F n P Q a w := by
  refine wpIn_rangeFunc fun fn hfn => ?_
  rw [hro]
  -- the record of the loop, by its state
  obtain ⟨R, hR⟩ : ∃ R : LoopState → Option Code → Obj, R = fun st pe => .loop { state := st, pending := pe, fn, tmps := a.tmps, params := ps, assign, body, defers := w.heap.size } := ⟨_, rfl⟩
  obtain ⟨S, hS⟩ : ∃ S, S = w.heap.size := ⟨_, rfl⟩
  obtain ⟨W0, hW0⟩ : ∃ W0, W0 = (w.alloc (.deferred (some []))).alloc (R .ready none) := ⟨_, rfl⟩
  have z0 : W0.heap.size = S + 2 := by rw [hW0, hS]; simp
  have b0 : Below S w W0 := by rw [hW0, hS]; exact ((Below.refl _ _).alloc (Nat.le_refl _) _).alloc (by simp) _
  have l0 : W0.heap[S + 1]? = some (R .ready none) := by rw [hW0, hS]; have := heap_newM (w.alloc (.deferred (some []))) (R .ready none); rwa [World.size_alloc] at this
  have d0 : W0.heap[S]? = some (.deferred (some [])) := by rw [hW0, hS, Below.heap_alloc _ _ _ (by simp)]; exact heap_newM _ _
  refine ⟨S + 1, [{ target := .collected S, args := #[] }], W0, { target := .fn (.func gf) lb, args := #[.func (.yield (S + 1)) #[] #[]] }, W0, gf, #[.func (.yield (S + 1)) #[] #[]] ++ lb, W0, ?_, ?_, ?_, ?_, fun _ => h1, ?_⟩
  · rw [hW0, hR, hS]; exact run_enterLoop_outer _ _ _ _ _
  · simp only [resolve, hg]; simp [go_sem]
  · intro f' hf'; simp [Target.leads] at hf'; subst hf'; exact hFg
  · simp [invoke, go_sem, eg]
  · rw [← hS] at hI hIx hbody hdone hstop
    have two : ∀ (A B : World) (o o' : Obj), Below W0.heap.size A B → A.heap[S + 1]? = some o → A.heap[S]? = some o' → B.heap[S + 1]? = some o ∧ B.heap[S]? = some o' := fun A B o o' h h2 h3 => ⟨by rw [h.block _ (by omega)]; exact h2, by rw [h.block _ (by omega)]; exact h3⟩
    refine (hseq (S + 1) (fun pre W => I pre W ∧ W.heap[S + 1]? = some (R .ready none) ∧ W.heap[S]? = some (.deferred (some [])) ∧ W0.heap.size ≤ W.heap.size)
      (fun pre W => ∃ c, Ix c pre W ∧ W.heap[S + 1]? = some (R .done (some c)) ∧ W.heap[S]? = some (.deferred (some []))) W0
      (fun s A B h hb => by
        obtain ⟨p1, p2⟩ := two A B _ _ hb h.2.1 h.2.2.1
        exact ⟨hI s A B h.1 (hb.mono (by omega)), p1, p2, Nat.le_trans h.2.2.2 hb.size⟩) ?_ ⟨hI _ _ _ h0 b0, l0, d0, Nat.le_refl _⟩).mono ?_
    · rintro pre x W ⟨hi, hl, hd, hz⟩ hpre
      have hlt : S + 1 < W.heap.size := by omega
      obtain ⟨r0, hr0⟩ : ∃ r : Loop, R .ready none = .loop r ∧ r.state = .ready ∧ r.pending = none ∧ r.fn = fn ∧ r.tmps = a.tmps ∧ r.params = ps ∧ r.assign = assign ∧ r.body = body ∧ ∀ st pe, R st pe = .loop { r with state := st, pending := pe } := by
        rw [hR]; exact ⟨_, rfl, rfl, rfl, rfl, rfl, rfl, rfl, rfl, fun _ _ => rfl⟩
      obtain ⟨e1, e2, e3, e4, e5, e6, e7, e8, e9⟩ := hr0
      rw [e1] at hl
      have hy := run_yield (P := P) (args := encs x) hl (by rw [e6]; exact hps x)
      rw [e4, e5, e6, e7, e8] at hy
      refine ⟨fn, _, assign, body, hy, roundIn_of_wpIn hfn (hassign _ x W _ ⟨_, run_beginRound hl e2, ?_⟩)⟩
      obtain ⟨Wb, hWb⟩ : ∃ Wb, Wb = W.putObj (S + 1) (.loop { r0 with state := .busy }) := ⟨_, rfl⟩
      rw [← hWb]
      have lb' : Wb.heap[S + 1]? = some (.loop { r0 with state := .busy }) := by rw [hWb]; exact World.putObj_heap_same hlt
      have db : Wb.heap[S]? = some (.deferred (some [])) := by rw [hWb]; exact (World.putObj_heap_other (by omega)).trans hd
      have sb : Wb.heap.size = W.heap.size := by rw [hWb]; simp [World.putObj]
      have kb : KeepA W0.heap.size W Wb := ⟨by omega, fun k h2 _ => by rw [hWb]; exact World.putObj_heap_other (by omega)⟩
      refine wpIn_mono (hbody _ pre x Wb (hI _ _ _ hi (by rw [hWb]; exact below_put _ (by omega))) hpre (by omega)) ?_
      have fin : ∀ (j : Option Code) (W3 : World), KeepA S Wb W3 → (Instr.endRound (S + 1) j).run P W3 = .ok (.bool j.isNone) (W3.putObj (S + 1) (R (if j.isNone then .ready else .done) j)) ∧
          (W3.putObj (S + 1) (R (if j.isNone then .ready else .done) j)).heap[S + 1]? = some (R (if j.isNone then .ready else .done) j) ∧ (W3.putObj (S + 1) (R (if j.isNone then .ready else .done) j)).heap[S]? = some (.deferred (some [])) ∧
          Below S W3 (W3.putObj (S + 1) (R (if j.isNone then .ready else .done) j)) ∧ KeepA W0.heap.size W (W3.putObj (S + 1) (R (if j.isNone then .ready else .done) j)) ∧ W0.heap.size ≤ (W3.putObj (S + 1) (R (if j.isNone then .ready else .done) j)).heap.size := fun j W3 hk => by
        have l3 : W3.heap[S + 1]? = some (.loop { r0 with state := .busy }) := by rw [hk.block _ (by omega) (by omega)]; exact lb'
        have d3 : W3.heap[S]? = some (.deferred (some [])) := by rw [hk.block _ (by omega) (by omega)]; exact db
        have s3 := hk.size
        have hrun := run_endRound (P := P) j l3
        rw [e9]
        have sp : (W3.putObj (S + 1) (.loop { r0 with state := if j.isNone then .ready else .done, pending := j })).heap.size = W3.heap.size := by simp [World.putObj]
        refine ⟨hrun, World.putObj_heap_same (by omega), (World.putObj_heap_other (by omega)).trans d3, below_put _ (by omega), ⟨by omega, fun k h2 h3 => ?_⟩, by omega⟩
        rw [World.putObj_heap_other (by omega), hk.block k (by omega) (by omega)]
        exact kb.block k h2 h3
      rintro e a3 W3 hp
      cases e with
      | normal =>
        obtain ⟨hr, l4, d4, b4, k4, z4⟩ := fin none W3 hp.1
        exact ⟨_, _, hr, .inl ⟨rfl, ⟨hI _ _ _ hp.2 b4, l4, d4, z4⟩, k4⟩⟩
      | ret =>
        obtain ⟨hr, l4, d4, b4, k4, z4⟩ := fin (some .ret) W3 hp.1
        exact ⟨_, _, hr, .inr ⟨rfl, .ret, hIx _ _ _ _ hp.2 b4, l4, d4⟩⟩
      | exit id =>
        obtain ⟨hr, l4, d4, b4, k4, z4⟩ := fin (some (.exit id)) W3 hp.1
        exact ⟨_, _, hr, .inr ⟨rfl, .exit id, hIx _ _ _ _ hp.2 b4, l4, d4⟩⟩
      | goto t =>
        obtain ⟨hr, l4, d4, b4, k4, z4⟩ := fin (some (.goto t)) W3 hp.1
        exact ⟨_, _, hr, .inr ⟨rfl, .goto t, hIx _ _ _ _ hp.2 b4, l4, d4⟩⟩
      | panic ch => exact hp.elim
      | outgrown => exact hp.elim
    · rintro e W2 ⟨⟨v, rfl⟩, (⟨hi, hl, hd, _⟩ | ⟨pre, hpre, c, hi, hl, hd⟩)⟩
      · rw [hR] at hl
        exact ⟨none, _, run_endLoop (P := P) hl (by simp), hdone _ _ (Nat.le_refl _) (hI _ _ _ hi (below_put _ (by omega))) ((World.putObj_heap_other (by omega)).trans hd)⟩
      · rw [hR] at hl
        exact ⟨some c, _, run_endLoop (P := P) hl (by simp), hstop _ c pre _ (Nat.le_refl _) hpre (hIx _ _ _ _ hi (below_put _ (by omega))) ((World.putObj_heap_other (by omega)).trans hd)⟩
end Go.Proofs.YtdfcipdknfebpaaDoor
