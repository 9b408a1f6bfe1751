/- (*Wide).Told: a sum in form, or the bound's number. -/
import Derived.Test.YtklhfagcembigaaGreatDoorNumber
import Derived.Test.YtklhfagcembigaaGreatDoorToldMath
import Derived.Test.YtklhfagcembigaaGreatDoorOfAny
import Derived.Deep.CutRange
namespace Go.Proofs.YtklhfagcembigaaGreatDoor
open Go.RowKit

theorem InOut.later {w1 wr wn : World} {d : Int} {sv : Value} {n : Nat} {xs : List Value} (h : InOut w1 wr d sv n xs) (hb : Below wr.heap.size wr wn) : InOut w1 wn d sv n xs :=
  ⟨below_chain h.keep hb, (cell_past h.o0 hb).2, (cell_past h.o1 hb).2, (frozen_past h.o1 h.fz hb).2, ownsRow_past h.row hb⟩

theorem InOut.grows {w1 wr w3 : World} {d : Int} {sv : Value} {n : Nat} {xs : List Value} {X : Obj} (h : InOut w1 wr d sv n xs) (hg : (wr.alloc X).grownBy w3 sv.ownBlock) : Below (w1.heap.size + 1) wr w3 := by
  have hB := cell_lt h.o0
  simp only at hB
  exact ((Below.refl _ _).alloc (by omega) _).grown hg (by simp; omega) (fun k e => (h.row.lt k e).1)
/-- A fraction's box, ahead of its store. -/
structure NewBox3 (W0 W : World) (B : Nat) : Prop where
  c0 : W.cell? ⟨B, 0, none⟩ = some (.bool false)
  c1 : W.cell? ⟨B, 1, none⟩ = some (.slice none 0 0)
  c2 : W.cell? ⟨B, 2, none⟩ = some (.slice none 0 0)
  f0 : W.frozen? ⟨B, 0, none⟩ = false
  f1 : W.frozen? ⟨B, 1, none⟩ = false
  f2 : W.frozen? ⟨B, 2, none⟩ = false
  no : NoInts W B
  hB : W0.heap.size ≤ B
theorem NewBox3.later {W0 W W' : World} {B : Nat} (h : NewBox3 W0 W B) (hb : Below W.heap.size W W') : NewBox3 W0 W' B :=
  ⟨(cell_past h.c0 hb).2, (cell_past h.c1 hb).2, (cell_past h.c2 hb).2, (frozen_past h.c0 h.f0 hb).2, (frozen_past h.c1 h.f1 hb).2, (frozen_past h.c2 h.f2 hb).2, h.no.later (cell_lt h.c0) hb, h.hB⟩
theorem newBox3_new {W0 W : World} (h : Below W0.heap.size W0 W) : NewBox3 W0 (W.alloc (.cells #[.bool false, .slice none 0 0, .slice none 0 0] 57)) W.heap.size :=
  ⟨by simp, by simp, by simp, by simp, by simp, by simp, noInts_new3 W false none 0 0 none 0 0 _, h.size⟩
theorem newBox3_of {W0 W W' : World} (h : Below W0.heap.size W0 W) (hb : Below (W.alloc (.cells #[.bool false, .slice none 0 0, .slice none 0 0] 57)).heap.size (W.alloc (.cells #[.bool false, .slice none 0 0, .slice none 0 0] 57)) W') : NewBox3 W0 W' W.heap.size :=
  (newBox3_new h).later hb
/-- A fraction's box: its sign and size. -/
structure RatBox (W0 W : World) (B : Nat) (z : Int) : Prop where
  below : Below W0.heap.size W0 W
  box : ∃ u, W.cell? ⟨B, 0, none⟩ = some (.bool (decide (z < 0))) ∧ W.cell? ⟨B, 1, none⟩ = some u ∧ BigAt W u z.natAbs
theorem ratBox_late {W0 W : World} {z : Int} {ad : Option Addr} {l cap : Nat} {v : Value} (h : Below W0.heap.size W0 W) (hu : BigAt W (.slice ad l cap) z.natAbs) : RatBox W0 (W.alloc (.cells #[.bool (decide (z < 0)), .slice ad l cap, v] 57)) W.heap.size z :=
  ⟨more_below h _, ⟨.slice ad l cap, by rw [World.cell?_alloc_at _ _ _ _ rfl]; rfl, by rw [World.cell?_alloc_at _ _ _ _ rfl]; rfl, hu.later (new_below _ _)⟩⟩
theorem ratBox_soon {W0 W : World} {B : Nat} {z : Int} {ad ad' : Option Addr} {l cap l' cap' : Nat} (h : Below W0.heap.size W0 W) (hu : BigAt W (.slice ad l cap) z.natAbs) (hn : NewBox3 W0 W B) : RatBox W0 (((W.setCell ⟨B, 0, none⟩ (.bool (decide (z < 0)))).setCell ⟨B, 1, none⟩ (.slice ad l cap)).setCell ⟨B, 2, none⟩ (.slice ad' l' cap')) B z :=
  ⟨below_set3 h hn.hB _ _ _, ⟨.slice ad l cap, by rw [World.cell?_setCell_other _ _ _ _ (by simp), World.cell?_setCell_other _ _ _ _ (by simp)]; exact World.cell?_setCell_same _ _ _ hn.c0, by rw [World.cell?_setCell_other _ _ _ _ (by simp)]; exact World.cell?_setCell_same _ _ _ (by rw [World.cell?_setCell_other _ _ _ _ (by simp)]; exact hn.c1), hu.set3 hn.no hn.c0 hn.c1⟩⟩

def zsOf (L : List Ent) : List Int := L.map Ent.z
def gT (M : Nat) (L : List Ent) (k : Nat) : Nat := gList M ((zsOf L).take k)
theorem zsOf_length (L : List Ent) : (zsOf L).length = L.length := by unfold zsOf; simp
theorem gT_succ (M : Nat) {L : List Ent} {k : Nat} {f : Ent} (hf : L[k]? = some f) : gT M L (k + 1) = Nat.gcd (gT M L k) f.z.natAbs := by
  have hk : k < L.length := (List.getElem?_eq_some_iff.1 hf).1
  have hz : (zsOf L)[k]? = some f.z := by unfold zsOf; rw [List.getElem?_map, hf]; rfl
  have h1 : (zsOf L).take (k + 1) = (zsOf L).take k ++ [f.z] := by
    rw [List.take_succ_eq_append_getElem (by rw [zsOf_length]; exact hk)]
    rw [List.getElem?_eq_getElem (by rw [zsOf_length]; exact hk)] at hz
    rw [Option.some.inj hz]
  unfold gT
  rw [h1, gList_append]
theorem gT_dvd (M : Nat) (L : List Ent) (k : Nat) : gT M L k ∣ M := gList_dvd_base _ _
theorem gT_all (M : Nat) (L : List Ent) : gT M L L.length = gList M (zsOf L) := by unfold gT; rw [← zsOf_length, List.take_length]
theorem den_lt {M E : Nat} (h : M < E) (L : List Ent) (k : Nat) : M / gT M L k < E := Nat.lt_of_le_of_lt (Nat.div_le_self _ _) h
theorem den_pos {M : Nat} (h : 0 < M) (L : List Ent) (k : Nat) : 0 < M / gT M L k := Nat.div_pos (Nat.le_of_dvd h (gT_dvd M L k)) (Nat.pos_of_dvd_of_pos (gT_dvd M L k) h)
theorem den_next {M : Nat} (h : 0 < M) {L : List Ent} {k : Nat} {f : Ent} (hf : L[k]? = some f) : (M / gT M L k) * (lowD M f.z / Nat.gcd (M / gT M L k) (lowD M f.z)) = M / gT M L (k + 1) := by
  rw [gT_succ M hf]; exact den_step h (gT_dvd M L k)
theorem over_next {G : Nat} {L : List Ent} {k : Nat} {f : Ent} (hf : L[k]? = some f) : overL G (absL (L.take (k + 1))) = overL G (absL (L.take k)) ++ if f.z.tdiv (G : Int) = 0 then [] else [((f.p : Int), f.z.tdiv (G : Int))] := by
  have hk : k < L.length := (List.getElem?_eq_some_iff.1 hf).1
  have h1 : L.take (k + 1) = L.take k ++ [f] := by
    rw [List.take_succ_eq_append_getElem hk]
    rw [List.getElem?_eq_getElem hk] at hf
    rw [Option.some.inj hf]
  rw [h1, absL_join]
  unfold overL
  rw [List.map_append, List.filter_append]
  congr 1
  by_cases h : f.z.tdiv (G : Int) = 0
  · rw [if_pos h]; simp [absL, h]
  · rw [if_neg h]; simp [absL, h]
theorem take_len_le {G : Nat} (L : List Ent) (k : Nat) : (overL G (absL (L.take k))).length ≤ L.length := by
  have h1 := length_over (absL (L.take k)) G
  rw [absL_length, List.length_take] at h1
  omega
def FitsW (M G : Nat) (L : List Ent) : Prop := M / G ≤ 1000000 ∧ ∀ e ∈ L, (e.z.tdiv (G : Int)).natAbs ≤ 1099511627776
/-- A place of a Wide, cell by cell. -/
theorem WideAt.cells {base M B : Nat} {W : World} {adp adc : Option Addr} {np nc capp capc : Nat} {L : List Ent} (h : WideAt base M W B (.slice adp np capp) (.slice adc nc capc) L) {k : Nat} {f : Ent} (hf : L[k]? = some f) : ∃ gp gc, adp = some ⟨gp, 0, none⟩ ∧ adc = some ⟨gc, 0, none⟩ ∧ W.cell? ⟨gp, k, none⟩ = some (.int .i64 (f.p : Int)) ∧ W.cell? ⟨gc, k * 3, none⟩ = some f.x ∧ W.cell? ⟨gc, k * 3 + 1, none⟩ = some f.y ∧ W.cell? ⟨gc, k * 3 + 2, none⟩ = some f.q := by
  have hk : k < L.length := (List.getElem?_eq_some_iff.1 hf).1
  have hfk : L[k] = f := (List.getElem?_eq_some_iff.1 hf).2
  obtain ⟨gp, cp, e1, _⟩ := h.P.form (by omega)
  obtain ⟨gc, cc, e2, _⟩ := h.C.form (by omega)
  simp only [Value.slice.injEq] at e1 e2
  obtain ⟨rfl, rfl, rfl⟩ := e1
  obtain ⟨rfl, rfl, rfl⟩ := e2
  have hfl := flat3_length L
  obtain ⟨x0, x1, x2⟩ := flat3_at L k f hf
  refine ⟨gp, gc, rfl, rfl, ?_, ?_, ?_, ?_⟩
  · rw [h.P.cellAt k (by omega), digCells_get (by unfold primes; simpa using hk), primes_at hk, hfk]
  · rw [h.C.cellAt _ (by omega), x0]
  · rw [h.C.cellAt _ (by omega), x1]
  · rw [h.C.cellAt _ (by omega), x2]
end Go.Proofs.YtklhfagcembigaaGreatDoor
