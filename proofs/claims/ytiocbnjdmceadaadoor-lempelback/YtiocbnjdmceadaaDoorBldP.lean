/- A strings.Builder: what its methods do. -/
import Derived.Test.YtiocbnjdmceadaaDoorLaysW
import Derived.Test.YtiocbnjdmceadaaDoorValidWalk
import Derived.Test.YtiocbnjdmceadaaDoorUnQ
namespace Go.Proofs.YtiocbnjdmceadaaDoor
open Go.RowKit Go.Lib

theorem Tryd.sizeBld : (Tryd.prog.info? 68).map (·.size) = some 2 := by kernel_rfl
theorem Tryd.liesBld : liesAt Tryd.prog Tryd.prog.depth 68 (2 / Tryd.prog.cellsOf 68) 0 68 1 = true := by kernel_rfl
set_option maxRecDepth 100000 in
theorem check_old (b : Nat) (w : World) (h0 : w.cell? ⟨b, 0, none⟩ = some (.pointer (some ⟨b, 0, none⟩))) :
    Calls Tryd.prog 30 #[.pointer (some ⟨b, 0, none⟩)] w fun e w' => e = .returned (.tuple #[]) ∧ w' = w := by
  obtain ⟨j, hj, hjs⟩ := Option.map_eq_some_iff.1 Tryd.sizeBld
  go_enter Tryd.func30, Tryd.ntmps30
  have hq := fun (V : World) => run_neq_ptr_same (P := Tryd.prog) V ⟨b, 0, none⟩ Tryd.underlying65 hj
  go_wp2
  go_end0
  exact ⟨rfl, rfl⟩
set_option maxRecDepth 100000 in
theorem check_new (b : Nat) (w : World) (h0 : w.cell? ⟨b, 0, none⟩ = some (.pointer none)) (hsh : w.shape? b = some (68, 2)) (hfz : w.frozen? ⟨b, 0, none⟩ = false) :
    Calls Tryd.prog 30 #[.pointer (some ⟨b, 0, none⟩)] w fun e w' => e = .returned (.tuple #[]) ∧ w' = w.setCell ⟨b, 0, none⟩ (.pointer (some ⟨b, 0, none⟩)) := by
  obtain ⟨j, hj, hjs⟩ := Option.map_eq_some_iff.1 Tryd.sizeBld
  go_enter Tryd.func30, Tryd.ntmps30
  have hto := run_to_unsafe (P := Tryd.prog) w ⟨b, 0, none⟩ Tryd.underlying65 Tryd.underlying81 hj (by rw [hjs]; decide) hsh (show 0 < 2 by decide)
  have hfr := run_from_unsafe (P := Tryd.prog) w ⟨b, 0, none⟩ Tryd.underlying81 Tryd.underlying65 hj hsh Tryd.liesBld
  go_wp2
  rw [run_callFunc_extern Tryd.func38 (by kernel_rfl) (by kernel_rfl) (by kernel_rfl) (e := Extern.AbiNoEscape.same) (by kernel_rfl), run_noEscape]
  simp only [Result.andThen]
  rw [Oper.upon_value]
  go_wp2
  go_end0
  exact ⟨rfl, rfl⟩

/-- A builder in block b, with bytes. -/
def BldAt (B b : Nat) (bs : List Value) (w : World) : Prop := IsBuilderF 68 5 B b bs w
def Kept5 (b : Nat) (w w' : World) : Prop := OthersKept 5 (some b) w w'
theorem check_any (B b : Nat) (bs : List Value) (w : World) (h : BldAt B b bs w) :
    Calls Tryd.prog 30 #[.pointer (some ⟨b, 0, none⟩)] w fun e w' => e = .returned (.tuple #[]) ∧ BuilderAtF 68 5 B b (.pointer (some ⟨b, 0, none⟩)) bs w' ∧ Below B w w' ∧ Kept5 b w w' := by
  rcases h with h | h
  · exact (check_new b w h.cell0 h.shape h.frozen0).mono fun e w' ⟨he, hw⟩ => by
      subst hw
      exact ⟨he, h.used _, (Below.refl B w).setCell (p := ⟨b, 0, none⟩) h.1 _, (OthersKept.refl _ _ w).setCell ⟨b, 0, none⟩ rfl _⟩
  · exact (check_old b w h.cell0).mono fun e w' ⟨he, hw⟩ => by
      subst hw
      exact ⟨he, h, Below.refl B _, OthersKept.refl _ _ _⟩
theorem rowF_form {w : World} {B : Nat} {e : TypeId} {v : Value} {n : Nat} {xs : List Value} (h : World.ownsRowF w B e 1 v n xs) : ∃ ao m cp, v = .slice ao m cp := by
  rcases h.2 with ⟨rfl, _⟩ | ⟨g, cap, cur, fz, rfl, _⟩
  · exact ⟨_, _, _, rfl⟩
  · exact ⟨_, _, _, rfl⟩
set_option maxRecDepth 100000 in
set_option maxHeartbeats 1000000 in
theorem Write_any (B b : Nat) (bs : List Value) (t : ByteArray) (w : World) (h : BldAt B b bs w) (hlen : bs.length + t.size ≤ 1000000) (hBw : B ≤ w.heap.size) :
    Calls Tryd.prog 24 #[.pointer (some ⟨b, 0, none⟩), .string t] w fun e w' => e = .returned (.tuple #[.int .i64 (t.size : Int), .nilIface]) ∧ BldAt B b (bs ++ strCells t) w' ∧ Below B w w' ∧ Kept5 b w w' := by
  obtain ⟨i, hi, hi2⟩ := Option.map_eq_some_iff.1 Tryd.infoU8
  obtain ⟨q0, q1, q2⟩ : i.zero = some (.int .u8 0) ∧ i.size = 1 ∧ i.bytes = 1 := by simpa using hi2
  have hC := check_any B b bs w h
  clear hi2 h
  go_enter Tryd.func24, Tryd.ntmps24
  go_wp2_with fail
  refine hC.mono ?_
  clear hC
  rintro e w1 ⟨rfl, ⟨hB, v, hbk, hown, hne⟩, hb1, hk1⟩
  have x0 : w1.cell? ⟨b, 0, none⟩ = some (.pointer (some ⟨b, 0, none⟩)) := by rw [cell_of_heap hbk]; rfl
  have x1 : w1.cell? ⟨b, 1, none⟩ = some v := by rw [cell_of_heap hbk]; rfl
  have hs1 := hb1.size
  have hlt : b < w1.heap.size := heap_lt hbk
  have H1 := Hid.mk' (And.intro hbk (And.intro hown (And.intro hne (And.intro hb1 hk1))))
  clear hbk hown hne hb1 hk1
  go_wp2_with (at_builtin; go_must (refine wpList_append_own_stringF _ rfl _ _ 66 9 rfl B 5 i Tryd.underlying66 Tryd.underlying9 hi q0 q1 q2 v bs.length bs rfl H1.out.2.1 t rfl (by unfold maxLen; omega) (by omega) (by omega) ?_; intro v' w2 hown' hgrow hrest; obtain ⟨ao, n2, cp, rfl⟩ := rowF_form hown'; have hb2 : w2.heap[b]? = some (.cells #[.pointer (some ⟨b, 0, none⟩), v] 68 (0, 0)) := (hgrow.block b hlt (fun e => H1.out.2.2.1 e.symm)).trans H1.out.1; have y0 : w2.cell? ⟨b, 0, none⟩ = some (.pointer (some ⟨b, 0, none⟩)) := (cell_of_heap hb2 0).trans rfl; have y1 : w2.cell? ⟨b, 1, none⟩ = some v := (cell_of_heap hb2 1).trans rfl; have z1 : w2.frozen? ⟨b, 1, none⟩ = false := frozen_of_heap hb2 1; have H2 := Hid.mk' (And.intro hb2 (And.intro hown' hgrow)); clear hb2 hown' hgrow hrest))
  go_ret2
  obtain ⟨g1, g2, g3⟩ := H2.out
  obtain ⟨h1, h2, h3, h4, h5⟩ := H1.out
  refine ⟨rfl, Or.inr (BuilderAtF.put hB g1 (bs' := bs ++ strCells t) (by rw [List.length_append, strCells_length]; exact g2) (by decide)), ?_, OthersKept.setCell (OthersKept.grown h5 g3 (ownsRowF_kind h2)) ⟨b, 1, none⟩ rfl _⟩
  exact (h4.grown g3 (by omega) (fun k hk => (World.ownsRowF.lt h2 k hk).1)).setCell (p := ⟨b, 1, none⟩) hB _

theorem BLen_any (B b : Nat) (bs : List Value) (w : World) (h : BldAt B b bs w) :
    Calls Tryd.prog 23 #[.pointer (some ⟨b, 0, none⟩)] w fun e w' => e = .returned (.int .i64 (bs.length : Int)) ∧ w' = w := Any.Builder_Len_f Tryd.bLenA B b bs w h
theorem BString_any (B b : Nat) (l : List UInt8) (w : World) (h : BldAt B b (Go.Lib.byteCells l) w) (hBw : B ≤ w.heap.size) :
    Calls Tryd.prog 25 #[.pointer (some ⟨b, 0, none⟩)] w fun e w' => e = .returned (.string ⟨l.toArray⟩) ∧ Below B w w' := (Any.Builder_String_any_k Tryd.bStringA Tryd.bStringX B b l w h hBw).mono fun _ _ ⟨h1, _, h2, _⟩ => ⟨h1, h2⟩
/-- A builder beside a row of texts that grows. -/
theorem BldAt.beside {B b : Nat} {bs : List Value} {w w' : World} {b2 n : Nat} {u : Value} {xs : List Value} (h : BldAt B b bs w) (k : w.ownsRow b2 9 1 u n xs) (hg : w.grownBy w' u.ownBlock) : BldAt B b bs w' := by
  have key : ∀ p, BuilderAtF 68 5 B b p bs w → BuilderAtF 68 5 B b p bs w' := fun p hp => by
    obtain ⟨hB, v, hb, hown, hne⟩ := hp
    have hrow : ∀ g, u.ownBlock = some g → ∃ c fz, w.heap[g]? = some (.cells c 9 fz) := fun g hgg => by
      rcases k.2 with ⟨rfl, _⟩ | ⟨g', cap, cur, rfl, _, hh, _⟩
      · simp [Value.ownBlock] at hgg
      · simp [Value.ownBlock] at hgg
        subst hgg
        exact ⟨cur, _, hh⟩
    have n1 : some b ≠ u.ownBlock := fun e => by
      obtain ⟨c, fz, hc⟩ := hrow b e.symm
      rw [hb] at hc
      simp at hc
    refine ⟨hB, v, (hg.block b (heap_lt hb) n1).trans hb, World.ownsRowF.kept hown hg ?_, hne⟩
    cases hv : v.ownBlock with
    | none => exact Or.inl rfl
    | some g =>
      refine Or.inr fun e => ?_
      obtain ⟨c, fz, hc⟩ := ownsRowF_kind hown g hv
      obtain ⟨c2, fz2, hc2⟩ := hrow g e.symm
      rw [hc] at hc2
      simp at hc2
  rcases h with h | h
  · exact Or.inl (key _ h)
  · exact Or.inr (key _ h)
/-- A row of texts beside a builder that is written. -/
theorem lzrow_kept5 {w w' : World} {B b b2 n : Nat} {bs : List Value} {u : Value} {xs : List Value} (k : w.ownsRow b2 9 1 u n xs) (h : BldAt B b bs w) (hk : Kept5 b w w') : w'.ownsRow b2 9 1 u n xs := by
  refine ⟨k.1, ?_⟩
  rcases k.2 with hn | ⟨g, cap, cur, hv, hg, hh, rest⟩
  · exact Or.inl hn
  · refine Or.inr ⟨g, cap, cur, hv, hg, hk g _ hh (fun e => ?_) (fun c fz e => by simp at e), rest⟩
    obtain rfl := Option.some.inj e
    rcases h with ⟨_, v, hb, _⟩ | ⟨_, v, hb, _⟩
    · rw [hh] at hb; simp at hb
    · rw [hh] at hb; simp at hb
end Go.Proofs.YtiocbnjdmceadaaDoor
