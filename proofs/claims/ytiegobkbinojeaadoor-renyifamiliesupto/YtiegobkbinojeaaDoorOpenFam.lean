/- A parameter of type demonref5.Family opened: its number, its rows; how many numbers it holds at the most. -/
import Derived.Test.YtiegobkbinojeaaDoorOpenTable
namespace Go.Proofs.YtiegobkbinojeaaDoor
open Go.ChangeShapes Go.WideShapes Go.ChangeAt Go.RowKit Go.Joins Go.Deep

theorem Tryd.cellsFam : Tryd.prog.cellsOf 24 = 2 := by kernel_rfl
set_option maxRecDepth 100000 in
theorem open_fam {H : Type} {enc : TypeId × Value → H} {W : World} {base : Nat} {v : Value} {d : DataW H} {p : List MemPlace} (hv : Value.okWide Tryd.prog W .any base 24 v)
    (h : DataW.Trod enc Tryd.prog W 0 (fun _ => true) true 24 v d p) :
    ∃ (M : Int) (la : Option Addr) (R lc : Nat) (vs : Nat → Value) (ns : Nat → Nat) (zs : Nat → Nat → Int), v = .agg #[.int .i64 M, .slice la R lc] ∧ TabAt W (.slice la R lc) R vs ns zs ∧ R ≤ maxLen ∧ sumT ns R ≤ Rows.uptoBulk d := by
  obtain ⟨c0, c1, y0, y1, m, rfl, rfl, rfl, hy0, hy1⟩ := open_agg2 Tryd.underlying24 (by kernel_rfl) Tryd.cellsFam hv h
  obtain ⟨M, e0, _, _⟩ := DataW.trod_int Tryd.underlying3 hy0
  simp at e0
  subst e0
  rcases open_int_rows Tryd.underlying22 Tryd.underlying39 Tryd.underlying3 Tryd.cellsInts Tryd.cellsInt hy1 with ⟨hc, _⟩ | ⟨a, R, cap, A, L, C, Z, hc, _, hl, hm, hx, hr⟩
  · simp at hc
    subst hc
    exact ⟨M, none, 0, 0, fun _ => .slice none 0 0, fun _ => 0, fun _ _ => 0, rfl, Or.inl ⟨none, 0, rfl, rfl⟩, Nat.zero_le _, Nat.zero_le _⟩
  · simp at hc
    subst hc
    obtain ⟨d1, p1⟩ := y1
    simp only [Prod.mk.injEq] at hx
    obtain ⟨rfl, _⟩ := hx
    have hbulk : sumT L R ≤ Rows.uptoBulk (DataW.slice ((List.range R).map fun r => intRow .i64 (A r) (L r) (Z r)) ((List.range (cap - R)).map fun j => intRow .i64 (A (R + j)) (L (R + j)) (Z (R + j))) : DataW H) := by
      have h1 := bulk_sum (H := H) (fun r => intRow .i64 (A r) (L r) (Z r)) L R (fun r hr' => by
        obtain ⟨_, h2, _, h4, _, h6, _⟩ := hr r (by omega)
        cases hA : A r with
        | none => have := h6 hA; omega
        | some a' =>
          have h7 := bulk_len (H := H) (lits .i64 ((Z r).take (L r)))
          have h8 : (lits (H := H) .i64 ((Z r).take (L r))).length = L r := by simp [lits]; omega
          simp only [intRow, Rows.uptoBulk]
          omega)
      simp only [Rows.uptoBulk]
      omega
    have hall : sumT L R ≤ Rows.uptoBulk (.agg [y0.1, DataW.slice ((List.range R).map fun r => intRow .i64 (A r) (L r) (Z r)) ((List.range (cap - R)).map fun j => intRow .i64 (A (R + j)) (L (R + j)) (Z (R + j)))] : DataW H) := by
      have h1 := bulk_mem (H := H) (d := DataW.slice ((List.range R).map fun r => intRow .i64 (A r) (L r) (Z r)) ((List.range (cap - R)).map fun j => intRow .i64 (A (R + j)) (L (R + j)) (Z (R + j)))) (l := [y0.1, DataW.slice ((List.range R).map fun r => intRow .i64 (A r) (L r) (Z r)) ((List.range (cap - R)).map fun j => intRow .i64 (A (R + j)) (L (R + j)) (Z (R + j)))]) (by simp)
      have h2 : Rows.uptoBulkAll [y0.1, DataW.slice ((List.range R).map fun r => intRow .i64 (A r) (L r) (Z r)) ((List.range (cap - R)).map fun j => intRow .i64 (A (R + j)) (L (R + j)) (Z (R + j)))] ≤ Rows.uptoBulk (.agg [y0.1, DataW.slice ((List.range R).map fun r => intRow .i64 (A r) (L r) (Z r)) ((List.range (cap - R)).map fun j => intRow .i64 (A (R + j)) (L (R + j)) (Z (R + j)))] : DataW H) := by
        simp only [Rows.uptoBulk]; omega
      omega
    rcases Nat.eq_zero_or_pos R with rfl | hpos
    · exact ⟨M, some a, 0, cap, fun _ => .slice none 0 0, L, fun _ _ => 0, rfl, Or.inl ⟨some a, cap, rfl, rfl⟩, Nat.zero_le _, hall⟩
    · obtain ⟨b, o, spot⟩ := a
      have hspot : spot = none := by simpa [Addr.add] using World.cell?_spot (hr 0 (by omega)).1
      subst hspot
      refine ⟨M, _, R, cap, fun r => .slice (A r) (L r) (C r), L, fun r i => (Z r).getD i 0, rfl, Or.inr ⟨b, o, cap, rfl, hpos, fun i hi => ?_⟩, by omega, hall⟩
      obtain ⟨h1, h2, _, h4, _, h6, h7⟩ := hr i (by omega)
      rw [Go.Proofs.YtiegobkbinojeaaDoor.add_plain] at h1
      refine ⟨h1, ?_⟩
      rcases Nat.eq_zero_or_pos (L i) with h0 | h0
      · exact Or.inl ⟨A i, C i, by dsimp only; rw [h0], h0⟩
      · cases hA : A i with
        | none => have := h6 hA; omega
        | some a' =>
          obtain ⟨_, h8⟩ := h7 a' hA
          obtain ⟨b', o', spot'⟩ := a'
          have hs' : spot' = none := by simpa [Addr.add] using World.cell?_spot (h8 0 (by omega))
          subst hs'
          refine Or.inr ⟨b', o', C i, by dsimp only; rw [hA], h0, fun j hj => ?_⟩
          have := h8 j (by omega)
          rw [Go.Proofs.YtiegobkbinojeaaDoor.add_plain] at this
          exact this
end Go.Proofs.YtiegobkbinojeaaDoor
