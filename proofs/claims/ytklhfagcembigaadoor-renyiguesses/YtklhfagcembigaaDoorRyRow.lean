/- Whatever numbers, put behind a row of one's own; a list with its room. -/
import Derived.Test.YtklhfagcembigaaDoorRyUni
import Derived.Test.YtklhfagcembigaaDoorRyMath
import Derived.Test.YtklhfagcembigaaDoorTabCopy
namespace Go.Proofs.YtklhfagcembigaaDoor
open Go.RowKit

theorem ow_pushR {B : Nat} {w0 wr w3 : World} {v : Value} {e : TypeId} {size n : Nat} {xs : List Value} (hB : Below B w0 wr) (hle : B ≤ wr.heap.size) (hR : wr.ownsRow B e size v n xs) (hg : wr.grownBy w3 v.ownBlock) : Below B w0 w3 :=
  hB.trans ((Below.refl _ _).grown hg hle (fun k e => (hR.lt k e).1))
theorem append_zeroVR (w : World) (ty : TypeId) {B n : Nat} {v : Value} {xs : List Value} (hown : w.ownsRow B 3 1 v n xs) (ad : Option Addr) (cap : Nat) : (Builtin.append_ #[22, 22] ty #[v, .slice ad 0 cap]).run Tryd.prog w = .ok v w := by
  obtain ⟨i, hi, hi2⟩ := Option.map_eq_some_iff.1 Tryd.infoInt
  have src : Src Tryd.prog i.size 22 (.slice ad 0 cap) 0 [] w := by
    cases ad with
    | none => exact Src.ofNil w Tryd.underlying22 cap
    | some a => exact Src.ofSlice w Tryd.underlying22 a 0 cap [] (by simp) (fun j u h => by simp at h) (fun u h => by simp at h)
  rcases hown.2 with ⟨rfl, _⟩ | ⟨g, cp, cur, rfl, _, _, hc, _⟩
  · exact run_append_nothing w _ _ ty 3 i Tryd.underlying22 hi none 0 0 (Nat.le_refl _) _ src
  · exact run_append_nothing w _ _ ty 3 i Tryd.underlying22 hi _ n cp hc _ src
theorem wpList_append_ownR {w : World} {ops : Array Oper} {rest : List Oper} {o : Oper} {a : Act} {Q : Exit → Act → World → Prop} (hgd : o.guard = none) (s x : Operand)
    (ho : o.op = .call { callee := .builtin .append, args := #[s, x], argTypes := #[22, 22] })
    (w0 : World) (B : Nat) (v : Value) (n : Nat) (xs : List Value) (src : Value) (m : Nat) (y : Nat → Int) (hs : a.eval s = v) (hx : a.eval x = src) (hown : w.ownsRow B 3 1 v n xs) (hB : Below B w0 w) (hle : B ≤ w.heap.size) (h : NumsAt w src m y) (hn : n + m ≤ 100000)
    (k : ∀ v' w', w'.ownsRow B 3 1 v' (n + m) (xs ++ numCells y m) → Below B w0 w' → B ≤ w'.heap.size → wpList Tryd.prog ops Q rest (a.put o.dst v') w') : wpList Tryd.prog ops Q (o :: rest) a w := by
  rcases h with ⟨ad, cap, rfl, rfl⟩ | ⟨b, o', cap, rfl, h0, hr⟩
  · refine wpList_plain hgd fun K hK => ?_
    have hrun := append_zeroVR w o.type hown ad cap
    unfold Oper.wp
    simp [execOp, ho, resolve, invoke, builtin, hs, hx, hrun, Result.andThen]
    exact hK _ _ (k _ _ (by simpa [numCells] using hown) hB hle)
  · obtain ⟨i, hi, hi2⟩ := Option.map_eq_some_iff.1 Tryd.infoInt
    obtain ⟨hz, hsz, hby⟩ : i.zero = some (.int .i64 0) ∧ i.size = 1 ∧ i.bytes = 8 := by simpa using hi2
    refine wpList_append_lies w hgd s x 22 ho B 3 i _ 1 8 Tryd.underlying22 hi hz hsz hby rfl (by omega) v n xs hs hown ⟨b, o', none⟩ m cap (numCells y m) hx (by rw [numCells_length, Nat.mul_one]) (fun j u hu => numCells_news hr j u hu) (fun u hu => by obtain ⟨x, rfl⟩ := numCells_ints y m u hu; rfl) h0 (by unfold maxLen; omega) (by omega) hle _ rfl ?_
    intro g cap' w1 hown1 hgrow hat hlt
    have hb1 := ow_pushR hB hle hown hgrow
    exact k _ _ hown1 hb1 (Nat.le_trans hle (ow_pushR (Below.refl _ _) hle hown hgrow).size)
/-- A list in memory, with its room. -/
def RowIsR (w : World) (v : Value) (L : List Int) : Prop := (L = [] ∧ ∃ ad cap, v = .slice ad 0 cap) ∨ ∃ b cap, v = .slice (some ⟨b, 0, none⟩) L.length cap ∧ 0 < L.length ∧ L.length ≤ cap ∧ RowAt w b 0 L.length (atF L)
theorem RowIsR.later {w w' : World} {v : Value} {L : List Int} (h : RowIsR w v L) (hb : Below w.heap.size w w') : RowIsR w' v L := by
  rcases h with h | ⟨b, cap, hv, h0, h1, h2⟩
  · exact Or.inl h
  · exact Or.inr ⟨b, cap, hv, h0, h1, h2.later hb⟩
theorem RowIsR.nums {w : World} {v : Value} {L : List Int} (h : RowIsR w v L) : NumsAt w v L.length (atF L) := by
  rcases h with ⟨rfl, ad, cap, hv⟩ | ⟨b, cap, hv, h0, h1, h2⟩
  · exact Or.inl ⟨_, _, hv, rfl⟩
  · exact Or.inr ⟨b, 0, cap, hv, h0, h2⟩
theorem rowIs_ownR {w : World} {B : Nat} {v : Value} {L : List Int} {n : Nat} (h : w.ownsRow B 3 1 v n (cellL L)) (hn : n = L.length) (h0 : 0 < n) : RowIsR w v L := by
  subst hn
  rcases h.2 with ⟨_, h1⟩ | ⟨g, cap, cur, rfl, _, _, hc, _⟩
  · omega
  · refine Or.inr ⟨g, cap, rfl, h0, hc, ?_⟩
    rw [← numCells_list] at h
    exact rowAt_of_row h
theorem rowL_takeR (L : List Int) (k : Nat) (hk : k ≤ L.length) : rowL (atF L) k = L.take k := by
  refine List.ext_getElem (by simp [rowL]; omega) (fun i h1 h2 => ?_)
  simp [rowL] at h1
  simp [rowL, atF, List.getD, show i < L.length by omega]
theorem rowL_dropR (L : List Int) (k : Nat) : rowL (fun j => atF L (k + j)) (L.length - k) = L.drop k := by
  refine List.ext_getElem (by simp [rowL]) (fun i h1 h2 => ?_)
  simp [rowL] at h1
  simp [rowL, atF, List.getD, show k + i < L.length by omega]
theorem sub_headR {W : World} {b cp k : Nat} {L : List Int} (h : RowAt W b 0 L.length (atF L)) (hk : k ≤ L.length) : NumsAt W (.slice (some ⟨b, 0, none⟩) k cp) k (atF L) := by
  rcases Nat.eq_zero_or_pos k with h0 | h0
  · exact Or.inl ⟨_, _, by rw [h0], h0⟩
  · exact Or.inr ⟨b, 0, cp, rfl, h0, fun i hi => h i (by omega)⟩
theorem sub_tailR {W : World} {b cp k : Nat} {L : List Int} (h : RowAt W b 0 L.length (atF L)) (hk : k ≤ L.length) : NumsAt W (.slice (some ⟨b, k, none⟩) (L.length - k) cp) (L.length - k) (fun j => atF L (k + j)) := by
  rcases Nat.eq_zero_or_pos (L.length - k) with h0 | h0
  · exact Or.inl ⟨_, _, by rw [h0], h0⟩
  · exact Or.inr ⟨b, k, cp, rfl, h0, fun i hi => by have := h (k + i) (by omega); rwa [Nat.zero_add] at this⟩
theorem cut_cellsR (L : List Int) (k : Nat) (hk : k < L.length) : ([] ++ numCells (atF L) k) ++ numCells (fun j => atF L (k + 1 + j)) (L.length - (k + 1)) = cellL (L.eraseIdx k) := by
  rw [List.nil_append, ← cellL_row, ← cellL_row, rowL_takeR L k (by omega), rowL_dropR, ← cellL_append, List.eraseIdx_eq_take_drop_succ]
theorem row_cutR {W : World} {B : Nat} {v : Value} {L : List Int} {k m n : Nat} (hk : k < L.length) (hm : m = L.length - (k + 1)) (hn : n = 0 + k + m) (h : W.ownsRow B 3 1 v n (([] ++ numCells (atF L) k) ++ numCells (fun j => atF L (k + 1 + j)) m)) : RowIsR W v (L.eraseIdx k) := by
  rw [hm, cut_cellsR L k hk] at h
  have hl : (L.eraseIdx k).length = L.length - 1 := by rw [List.length_eraseIdx]; simp [hk]
  rcases Nat.eq_zero_or_pos n with h0 | h0
  · subst h0
    have h9 : (L.eraseIdx k).length = 0 := by omega
    have h8 : L.eraseIdx k = [] := List.length_eq_zero_iff.1 h9
    rw [h8] at h ⊢
    rcases h.2 with ⟨hx, _⟩ | ⟨g, cap, cur, rfl, _, _, hc, _⟩
    · exact Or.inl ⟨rfl, _, _, hx⟩
    · exact Or.inl ⟨rfl, _, _, rfl⟩
  · exact rowIs_ownR h (by omega) h0
end Go.Proofs.YtklhfagcembigaaDoor
