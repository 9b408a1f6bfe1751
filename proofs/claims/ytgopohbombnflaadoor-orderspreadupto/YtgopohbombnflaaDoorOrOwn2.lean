/- Whatever numbers, put behind a row of one's own. -/
import Derived.Test.YtgopohbombnflaaDoorOrDo
namespace Go.Proofs.YtgopohbombnflaaDoor
open Go.RowKit

theorem ow_push {B : Nat} {w0 wr w3 : World} {v : Value} {e : TypeId} {size n : Nat} {xs : List Value} (hB : Below B w0 wr) (hle : B ≤ wr.heap.size) (hR : wr.ownsRow B e size v n xs) (hg : wr.grownBy w3 v.ownBlock) : Below B w0 w3 :=
  hB.trans ((Below.refl _ _).grown hg hle (fun k e => (hR.lt k e).1))
theorem append_zeroV (w : World) (ty : TypeId) {B n : Nat} {v : Value} {xs : List Value} (hown : w.ownsRow B 3 1 v n xs) (ad : Option Addr) (cap : Nat) : (Builtin.append_ #[22, 22] ty #[v, .slice ad 0 cap]).run Tryd.prog w = .ok v w := by
  obtain ⟨i, hi, hi2⟩ := Option.map_eq_some_iff.1 Tryd.infoInt
  have src : Src Tryd.prog i.size 22 (.slice ad 0 cap) 0 [] w := by
    cases ad with
    | none => exact Src.ofNil w Tryd.underlying22 cap
    | some a => exact Src.ofSlice w Tryd.underlying22 a 0 cap [] (by simp) (fun j u h => by simp at h) (fun u h => by simp at h)
  rcases hown.2 with ⟨rfl, _⟩ | ⟨g, cp, cur, rfl, _, _, hc, _⟩
  · exact run_append_nothing w _ _ ty 3 i Tryd.underlying22 hi none 0 0 (Nat.le_refl _) _ src
  · exact run_append_nothing w _ _ ty 3 i Tryd.underlying22 hi _ n cp hc _ src
theorem wpList_append_own {w : World} {ops : Array Oper} {rest : List Oper} {o : Oper} {a : Act} {Q : Exit → Act → World → Prop} (hgd : o.guard = none) (s x : Operand)
    (ho : o.op = .call { callee := .builtin .append, args := #[s, x], argTypes := #[22, 22] })
    (w0 : World) (B : Nat) (v : Value) (n : Nat) (xs : List Value) (src : Value) (m : Nat) (y : Nat → Int) (hs : a.eval s = v) (hx : a.eval x = src) (hown : w.ownsRow B 3 1 v n xs) (hB : Below B w0 w) (hle : B ≤ w.heap.size) (h : NumsAt w src m y) (hn : n + m ≤ 100000)
    (k : ∀ v' w', w'.ownsRow B 3 1 v' (n + m) (xs ++ numCells y m) → Below B w0 w' → B ≤ w'.heap.size → wpList Tryd.prog ops Q rest (a.put o.dst v') w') : wpList Tryd.prog ops Q (o :: rest) a w := by
  rcases h with ⟨ad, cap, rfl, rfl⟩ | ⟨b, o', cap, rfl, h0, hr⟩
  · refine wpList_plain hgd fun K hK => ?_
    have hrun := append_zeroV w o.type hown ad cap
    unfold Oper.wp
    simp [execOp, ho, resolve, invoke, builtin, hs, hx, hrun, Result.andThen]
    exact hK _ _ (k _ _ (by simpa [numCells] using hown) hB hle)
  · obtain ⟨i, hi, hi2⟩ := Option.map_eq_some_iff.1 Tryd.infoInt
    obtain ⟨hz, hsz, hby⟩ : i.zero = some (.int .i64 0) ∧ i.size = 1 ∧ i.bytes = 8 := by simpa using hi2
    refine wpList_append_lies w hgd s x 22 ho B 3 i _ 1 8 Tryd.underlying22 hi hz hsz hby rfl (by omega) v n xs hs hown ⟨b, o', none⟩ m cap (numCells y m) hx (by rw [numCells_length, Nat.mul_one]) (fun j u hu => numCells_news hr j u hu) (fun u hu => by obtain ⟨x, rfl⟩ := numCells_ints y m u hu; rfl) h0 (by unfold maxLen; omega) (by omega) hle _ rfl ?_
    intro g cap' w1 hown1 hgrow hat hlt
    have hb1 := ow_push hB hle hown hgrow
    exact k _ _ hown1 hb1 (Nat.le_trans hle (ow_push (Below.refl _ _) hle hown hgrow).size)
end Go.Proofs.YtgopohbombnflaaDoor
