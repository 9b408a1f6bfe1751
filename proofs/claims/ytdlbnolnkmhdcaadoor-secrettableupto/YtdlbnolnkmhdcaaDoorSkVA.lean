/- secret.valueAt: a polynomial from its highest power down; slices.Backward. -/
import Derived.RangeFuncNested
import Derived.RangeFuncBound
import Derived.RangeFuncCalls
import Derived.RangeFuncLeaves
import Derived.RangeFuncFrom
import Derived.Shelf.Abstract
import Derived.Shelf.RegionOpen
import Derived.WalkKit
import Derived.OwnWalkIn
import Derived.TacticsInMore
import Derived.LoopNIn
import Derived.LoopIn
import Derived.Test.YtdlbnolnkmhdcaaDoorSkFld
namespace Go.Proofs.YtdlbnolnkmhdcaaDoor
open Go.RowKit Go.Shelf
attribute [local go_sem] Oper.semAt_some

/-- What the rounds in pre have made of the value: round j takes coefficient n - 1 - j. -/
def folV (p x n : Nat) (c : Nat → Nat) (pre : List Nat) : Nat := pre.foldl (fun y j => (y * x + c (n - 1 - j)) % p) 0
theorem folV_snoc (p x n : Nat) (c : Nat → Nat) (pre : List Nat) (j : Nat) : folV p x n c (pre ++ [j]) = (folV p x n c pre * x + c (n - 1 - j)) % p := by simp [folV]
theorem folV_lt {p x n : Nat} {c : Nat → Nat} (hp : 0 < p) (pre : List Nat) : folV p x n c pre < p := by
  rcases List.eq_nil_or_concat pre with rfl | ⟨r, j, rfl⟩
  · simpa [folV] using hp
  · rw [List.concat_eq_append, folV_snoc]; exact Nat.mod_lt _ hp

theorem rem_nat (a b d p : Nat) : ((a : Int) * (b : Int) + (d : Int)) % (p : Int) = (((a * b + d) % p : Nat) : Int) := by
  rw [Int.natCast_emod, Int.natCast_add, Int.natCast_mul]
/-- What a round keeps: what lay below n₀, and the slice's box. -/
def KeepsB (n₀ Bs : Nat) (W W' : World) : Prop := Below n₀ W W' ∧ W'.cell? ⟨Bs, 0, none⟩ = W.cell? ⟨Bs, 0, none⟩
theorem keepsB_t {n₀ Bs : Nat} {A B C : World} (h : KeepsB n₀ Bs A B) (k : KeepsB n₀ Bs B C) : KeepsB n₀ Bs A C := ⟨h.1.trans k.1, k.2.trans h.2⟩
theorem keepsB_b {n₀ Bs : Nat} {w : World} (hn : n₀ ≤ w.heap.size) (hB : Bs < w.heap.size) (W : World) (l : Nat) (o o' : Obj) (hl : w.heap.size ≤ l) (h : W.heap[l]? = some o) (h1 : o.isCells = false) (h2 : o.isWalk = false) : KeepsB n₀ Bs W (W.putObj l o') :=
  ⟨belowK_b (w := w) hn W l o o' hl h h1 h2, (belowK_b (w := w) (Nat.le_refl _) W l o o' hl h h1 h2).cell (p := ⟨Bs, 0, none⟩) hB⟩
end Go.Proofs.YtdlbnolnkmhdcaaDoor
