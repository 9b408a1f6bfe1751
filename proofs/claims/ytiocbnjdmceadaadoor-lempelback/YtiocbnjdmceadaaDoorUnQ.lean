/- The program's Unslide. -/
import Derived.Test.YtiocbnjdmceadaaDoorUnP
import Derived.Test.YtiocbnjdmceadaaDoorWeights
import Derived.Deep.AppendLies
import Derived.OwnWalk
import Derived.Laws.BytesArg
namespace Go.Proofs.YtiocbnjdmceadaaDoor
open Go.RowKit

theorem Tryd.infoU8 : (Tryd.prog.info? 5).map (fun i => (i.zero, i.size, i.bytes)) = some (some (.int .u8 0), 1, 1) := by kernel_rfl
/-- The cells of bytes. -/
def bytC (l : List UInt8) : List Value := l.map fun b => .int .u8 (b.toNat : Int)
theorem bytC_snoc (l : List UInt8) (b : UInt8) : bytC (l ++ [b]) = bytC l ++ [.int .u8 (b.toNat : Int)] := by simp [bytC]
theorem bytC_length (l : List UInt8) : (bytC l).length = l.length := by simp [bytC]
theorem bytC_at {l : List UInt8} {i : Nat} (h : i < l.length) : (bytC l)[i]? = some (.int .u8 ((l.getD i 0).toNat : Int)) := by
  simp [bytC, List.getD, h]
theorem nil_bytes (wr : World) : (convert 66 9 (.slice none 0 0)).run Tryd.prog wr = .ok (.string ⟨#[]⟩) wr := by
  unfold convert
  simp [Sem.run_bind]
  rfl
theorem row_bytes {wr : World} {B j : Nat} {d : Value} {l : List UInt8} (h : wr.ownsRow B 5 1 d j (bytC l)) : (convert 66 9 d).run Tryd.prog wr = .ok (.string ⟨l.toArray⟩) wr := by
  have hl : l.length = j := by have := h.1; simpa [bytC] using this
  rcases h.2 with ⟨rfl, h0⟩ | ⟨g, cap, cur, rfl, hb, hg, _⟩
  · rw [List.eq_nil_of_length_eq_zero (hl.trans h0)]; exact nil_bytes wr
  · have h1 := run_convert_bytes_arg (P := Tryd.prog) wr 66 5 Tryd.underlying66 Tryd.underlying5 g 0 j cap (l.map fun c => (c.toNat : Int)) (by rw [List.length_map, hl]) (fun i hi => by
      rw [Nat.zero_add, h.cellAt i (by omega)]
      simp [bytC, List.getD, hl, hi]) 9 Tryd.underlying9
    rw [h1, strOfNums, List.map_map, show ((fun n : Int => UInt8.ofNat n.toNat) ∘ fun c : UInt8 => (c.toNat : Int)) = id from funext fun c => by simp, List.map_id]
theorem cpyN_succ : ∀ n k b, cpyN (n + 1) k b = cpyN n k b ++ [(cpyN n k b).getD ((cpyN n k b).length - k) 0]
  | 0, k, b => rfl
  | n + 1, k, b => by
    rw [cpyN, cpyN_succ n k (b ++ [b.getD (b.length - k) 0])]
    rfl
theorem grown_cell {w w' : World} {row : Option Nat} {B o : Nat} {v : Value} (hg : w.grownBy w' row) (hc : w.cell? ⟨B, o, none⟩ = some v) (hne : some B ≠ row) : w'.cell? ⟨B, o, none⟩ = some v := by
  have hlt := cell_lt hc
  have := World.cell?_of_block (a := ⟨B, o, none⟩) (w := w) (hg.block B hlt hne)
  rw [this]; exact hc
theorem new_one (w : World) (x0 : Value) (t : TypeId) (j : Nat) (u : Value) (h : [x0][j]? = some u) : (w.alloc (.cells #[x0] t)).cell? ((⟨w.heap.size, 0, none⟩ : Addr).add j) = some u := by
  rw [add_plain, World.cell?_alloc_at _ _ _ _ rfl, Nat.zero_add]
  rcases j with _ | j
  · simpa using h
  · simp at h
/-- Bytes in the making, beside a box. -/
structure InUn (w wr : World) (sv : Value) (b : List UInt8) (B : Nat) (c : CpI) : Prop where
  row : wr.ownsRow w.heap.size 5 1 sv b.length (bytC b)
  below : Below w.heap.size w wr
  ne : some B ≠ sv.ownBlock
  c0 : wr.cell? ⟨B, 0, none⟩ = some (.int .i64 c.back)
  c1 : wr.cell? ⟨B, 1, none⟩ = some (.int .i64 c.len)
  c2 : wr.cell? ⟨B, 2, none⟩ = some (.int .u8 (c.next.toNat : Int))
  c3 : wr.cell? ⟨B, 3, none⟩ = some (.bool c.last)
theorem InUn.lt {w wr : World} {sv : Value} {b : List UInt8} {B : Nat} {c : CpI} (h : InUn w wr sv b B c) : B < wr.heap.size := cell_lt h.c0
theorem InUn.push {w wr w3 : World} {sv : Value} {b : List UInt8} {B : Nat} {c : CpI} {x : UInt8} {g cap : Nat} (h : InUn w wr sv b B c) {t : TypeId} (hr : w3.ownsRow w.heap.size 5 1 (.slice (some ⟨g, 0, none⟩) (b.length + 1) cap) (b.length + 1) (bytC b ++ [.int .u8 (x.toNat : Int)]))
    (hg : (wr.alloc (.cells #[.int .u8 (x.toNat : Int)] t)).grownBy w3 sv.ownBlock) (hat : sv.ownBlock = some g ∨ g = wr.heap.size + 1) : InUn w w3 (.slice (some ⟨g, 0, none⟩) (b.length + 1) cap) (b ++ [x]) B c := by
  have hB := h.lt
  have hle := h.below.size
  refine ⟨by rw [bytC_snoc, List.length_append]; exact hr, lz_push (h.below.alloc hle _) (by simp; omega) (h.row.alloc _) hg, ?_, ?_, ?_, ?_, ?_⟩
  · intro e
    have e2 : B = g := by simpa [Value.ownBlock] using e
    rcases hat with h1 | h1
    · exact h.ne (by rw [h1, e2])
    · omega
  · exact grown_cell hg (by rw [World.cell?_alloc_lt _ _ _ hB]; exact h.c0) h.ne
  · exact grown_cell hg (by rw [World.cell?_alloc_lt _ _ _ hB]; exact h.c1) h.ne
  · exact grown_cell hg (by rw [World.cell?_alloc_lt _ _ _ hB]; exact h.c2) h.ne
  · exact grown_cell hg (by rw [World.cell?_alloc_lt _ _ _ hB]; exact h.c3) h.ne
theorem InUn.start {w wr : World} {sv : Value} {b : List UInt8} (c : CpI) {t : TypeId} (hr : wr.ownsRow w.heap.size 5 1 sv b.length (bytC b)) (hb : Below w.heap.size w wr) : InUn w (wr.alloc (.cells #[.int .i64 c.back, .int .i64 c.len, .int .u8 (c.next.toNat : Int), .bool c.last] t)) sv b wr.heap.size c :=
  ⟨hr.alloc _, hb.alloc hb.size _, fun e => by have := (hr.lt _ e.symm).2; omega, by simp, by simp, by simp, by simp⟩
end Go.Proofs.YtiocbnjdmceadaaDoor
