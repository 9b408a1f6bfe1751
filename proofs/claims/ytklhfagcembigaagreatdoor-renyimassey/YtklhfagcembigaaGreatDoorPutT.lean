/- (sum).putTerms. -/
import Derived.Test.YtklhfagcembigaaGreatDoorGList
import Derived.Test.YtklhfagcembigaaGreatDoorSides
namespace Go.Proofs.YtklhfagcembigaaGreatDoor
open Go.RowKit Go.Maps

theorem map_no_cell {w : World} {b nn o : Nat} {D : DataW Unit} {k : TypeId} {R : Value → Option (DataW Unit × List MemPlace)} (h : w.ownsMap Tryz.prog k R b nn D) : w.cell? ⟨b, o, none⟩ = none := by
  obtain ⟨es, clock, hm, _⟩ := h
  simp [World.cell?, hm]
theorem atL_join : ∀ (l : List (Int × Int)) (e : Int × Int) (x : Int), (∀ f ∈ l, f.1 ≠ e.1) → atL (l ++ [e]) x = atL l x + if e.1 = x then e.2 else 0
  | [], e, x, _ => by simp [atL]
  | y :: r, e, x, h => by
    have ih := atL_join r e x (fun f hf => h f (List.mem_cons_of_mem _ hf))
    simp only [List.cons_append, atL]
    by_cases hy : y.1 = x
    · rw [if_pos hy, if_pos hy, if_neg (fun he => h y (List.mem_cons_self ..) (hy.trans he.symm))]; omega
    · rw [if_neg hy, if_neg hy]; exact ih
theorem take_before {t : List (Int × Int)} (hr : Rising t) {k : Nat} (hk : k < t.length) : ∀ f ∈ t.take k, f.1 ≠ (t.getD k (0, 0)).1 := fun f hf => by
  have h := hr.sublist (List.take_sublist (k + 1) t)
  rw [take_join hk] at h
  have := (List.pairwise_append.1 h).2.2 f hf (t.getD k (0, 0)) (by simp)
  omega
theorem atL_take {t : List (Int × Int)} (hr : Rising t) {k : Nat} (hk : k < t.length) (x : Int) : atL (t.take (k + 1)) x = atL (t.take k) x + if pOf t k = x then cOf t k else 0 := by
  rw [take_join hk, atL_join _ _ _ (take_before hr hk)]
  rfl
theorem atL_take_none {t : List (Int × Int)} (hr : Rising t) {k : Nat} (hk : k < t.length) : atL (t.take k) (pOf t k) = 0 := atL_none (take_before hr hk)
theorem atL_bound {t : List (Int × Int)} {B : Int} (hB : 0 ≤ B) (h : ∀ e ∈ t, -B ≤ e.2 ∧ e.2 ≤ B) (x : Int) : -B ≤ atL t x ∧ atL t x ≤ B := by
  by_cases h0 : atL t x = 0
  · rw [h0]; omega
  · exact h _ (atL_some h0)

/-- What putTerms keeps: k terms are put. -/
structure InTerms (w wr : World) (b : Nat) (m : Int) (l0 t : List (Int × Int)) (nn0 : Nat) (l : List (Int × Int)) (k : Nat) : Prop where
  own : wr.ownsMap Tryz.prog 3 (plainElem (H := Unit) Tryz.prog 3) b (nn0 + k) (mapOf l)
  rise : Rising l
  val : ∀ x, atL l x = atL l0 x + atL (t.take k) x * m
  keys : ∀ e ∈ l, 2 ≤ e.1 ∧ e.1 ≤ 1000000
  len : l.length ≤ l0.length + k
  grow : w.grownBy wr (some b)
  box : wr.cell? ⟨w.heap.size, 1, none⟩ = some (.map (some b))

theorem InTerms.put {w wr w1 : World} {b : Nat} {m : Int} {l0 t l : List (Int × Int)} {nn0 k : Nat} {X : Obj} (h : InTerms w wr b m l0 t nn0 l k) (hb : b < w.heap.size) (ht : Rising t) (hk : k < t.length) (hp : 2 ≤ pOf t k ∧ pOf t k ≤ 1000000)
    (ho : w1.ownsMap Tryz.prog 3 (plainElem (H := Unit) Tryz.prog 3) b (nn0 + k + 1) ((mapOf l).put (.int .i64 (pOf t k)) (.lit (.int .i64 (atL l (pOf t k) + cOf t k * m))))) (hg : (wr.alloc X).grownBy w1 (some b)) :
    InTerms w w1 b m l0 t nn0 (putL l (pOf t k) (atL l (pOf t k) + cOf t k * m)) (k + 1) := by
  have hgg : w.grownBy (wr.alloc X) (some b) := ⟨h.grow.os, h.grow.tape, h.grow.output, Nat.le_trans h.grow.size (by simp), fun j hj hn => (Below.heap_alloc _ _ j (Nat.lt_of_lt_of_le hj h.grow.size)).trans (h.grow.block j hj hn)⟩
  refine ⟨by rw [put_map] at ho; rw [← Nat.add_assoc]; exact ho, rising_put h.rise _ _, fun x => ?_, fun e he => ?_, ?_, grown_two hgg hg, cell_beside hg (by rw [World.cell?_alloc_lt _ _ ⟨w.heap.size, 1, none⟩ (cell_lt h.box)]; exact h.box) (by omega)⟩
  · rw [atL_put h.rise, atL_take ht hk, Int.add_mul]
    by_cases hx : x = pOf t k
    · rw [if_pos hx, if_pos hx.symm, h.val, hx]; omega
    · rw [if_neg hx, if_neg (fun e => hx e.symm), h.val, Int.zero_mul]; omega
  · rcases mem_put.1 he with rfl | ⟨he, _⟩
    · exact hp
    · exact h.keys e he
  · have h1 := length_put l (pOf t k) (atL l (pOf t k) + cOf t k * m)
    have h2 := h.len
    omega

theorem prod_bd {x m : Int} (hx : -1099511627776 ≤ x ∧ x ≤ 1099511627776) (hm : 0 ≤ m ∧ m ≤ 1000000) : -1099511627776000000 ≤ x * m ∧ x * m ≤ 1099511627776000000 := by
  obtain ⟨a, rfl⟩ := Int.eq_ofNat_of_zero_le hm.1
  have h1 : x * (a : Int) ≤ 1099511627776 * (a : Int) := Int.mul_le_mul_of_nonneg_right hx.2 (by omega)
  have h2 : -1099511627776 * (a : Int) ≤ x * (a : Int) := Int.mul_le_mul_of_nonneg_right hx.1 (by omega)
  omega

set_option maxRecDepth 100000 in
set_option maxHeartbeats 2000000 in
theorem putTerms_any (den m : Int) (b nn0 : Nat) (ad : Option Addr) (cap : Nat) (l0 t : List (Int × Int)) (w : World) (hown : w.ownsMap Tryz.prog 3 (plainElem (H := Unit) Tryz.prog 3) b nn0 (mapOf l0)) (hr : Rising l0) (hk : ∀ e ∈ l0, 2 ≤ e.1 ∧ e.1 ≤ 1000000) (hb : ∀ x, -1099511627776000000 ≤ atL l0 x ∧ atL l0 x ≤ 1099511627776000000)
    (hl : LogAt w (.slice ad t.length cap) t.length (pOf t) (cOf t)) (ht : Rising t) (hte : ∀ e ∈ t, 2 ≤ e.1 ∧ e.1 ≤ 1000000 ∧ -1099511627776 ≤ e.2 ∧ e.2 ≤ 1099511627776) (hm : 0 ≤ m ∧ m ≤ 1000000) (hlen : t.length ≤ 10000) (hnn : nn0 ≤ 100000) :
    Calls Tryz.prog 71 #[.agg #[.int .i64 den, .map (some b)], .slice ad t.length cap, .int .i64 m] w fun e w' => e = .returned (.tuple #[]) ∧ ∃ l, InTerms w w' b m l0 t nn0 l t.length := by
  have hbl := hown.lt
  have hmI := hm
  have HNC : Hid (∀ o, w.cell? ⟨b, o, none⟩ = none) := fun o => map_no_cell hown
  have HL := Hid.mk' hl
  have HT := Hid.mk' ht
  have HTE := Hid.mk' hte
  have HB := Hid.mk' hb
  have HI0 : Hid (InTerms w (w.alloc (.cells #[.int .i64 den, .map (some b)] 86)) b m l0 t nn0 l0 0) :=
    ⟨ownsMap_later hown (Below.heap_alloc _ _ b hbl), hr, fun x => by simp [atL], hk, Nat.le_refl _, ⟨rfl, rfl, rfl, by simp, fun k hk _ => Below.heap_alloc _ _ k hk⟩, by simp⟩
  clear hown hr hk hb hl ht hte hm
  go_enter Tryz.func71, Tryz.ntmps71
  go_wp2_with fail
  go_loopw [10] (fun i wr => ∃ (k : Nat) (l : List (Int × Int)), i = .int .i64 k ∧ k ≤ t.length ∧ Hid (InTerms w wr b m l0 t nn0 l k)) (fun i _ => t.length - (intOf i).toNat)
  case atStart => exact ⟨0, l0, rfl, by omega, HI0⟩
  case round =>
    clear HI0
    obtain ⟨k, l, rfl, hk, HI⟩ := hrel
    have hk0 : (0 : Int) ≤ (k : Int) := by omega
    by_cases hlt : k < t.length
    · have hkI : (k : Int) < (t.length : Int) := by omega
      obtain ⟨g, o, rfl, y0, y1⟩ := HL.out.cellsAt hlt
      have hgb : g ≠ b := fun e => by rw [e, HNC.out] at y0; cases y0
      have z0 := cell_beside HI.out.grow y0 hgb
      have z1 := cell_beside HI.out.grow y1 hgb
      obtain ⟨hp2, hp6, hc0, hc1⟩ := HTE.out _ (getD_mem hlt)
      have hpr := prod_bd (m := m) ⟨hc0, hc1⟩ hmI
      have hl0 := HB.out (pOf t k)
      have hv := HI.out.val (pOf t k)
      rw [atL_take_none HT.out hlt, Int.zero_mul, Int.add_zero] at hv
      rw [← hv] at hl0
      have hbox : ∀ X, (wr.alloc X).cell? ⟨w.heap.size, 1, none⟩ = some (.map (some b)) := fun X => by rw [World.cell?_alloc_lt _ _ ⟨w.heap.size, 1, none⟩ (cell_lt HI.out.box)]; exact HI.out.box
      have HKEY : Hid (keyOf Tryz.prog 3 (.int .i64 (pOf t k)) = some (.int .i64 (pOf t k))) := keyOf_int_mk Tryz.underlying3 (wf_int (by show -9223372036854775808 ≤ (t.getD k (0, 0)).1 ∧ (t.getD k (0, 0)).1 ≤ 9223372036854775807; omega))
      have HOA : Hid (∀ X, (wr.alloc X).ownsMap Tryz.prog 3 (plainElem (H := Unit) Tryz.prog 3) b (nn0 + k) (mapOf l)) := fun X => ownsMap_later HI.out.own (Below.heap_alloc _ _ b HI.out.own.lt)
      have HPUT := Hid.mk' (fun (w1 : World) (X : Obj) => HI.out.put (w1 := w1) (X := X) hbl HT.out hlt ⟨hp2, hp6⟩)
      have hsz := cell_lt HI.out.box
      obtain ⟨P, hP⟩ : ∃ P, P = pOf t k := ⟨_, rfl⟩
      obtain ⟨C, hC⟩ : ∃ C, C = cOf t k := ⟨_, rfl⟩
      obtain ⟨c, hc⟩ : ∃ c, c = atL l (pOf t k) := ⟨_, rfl⟩
      have hC0 : -1099511627776000000 ≤ C * m ∧ C * m ≤ 1099511627776000000 := by rw [hC]; exact hpr
      rw [← hc] at hl0 HPUT
      rw [← hP] at z0 HKEY HPUT hc
      rw [← hC] at z1 HPUT
      have HC := Hid.mk' hc
      clear hc hv hp2 hp6 hc0 hc1 hpr y0 y1 hP hC
      go_wp2_with (first
        | (at_lookup; go_must (refine wpList_lookup_own_int _ rfl _ _ 84 rfl 3 3 .i64 Tryz.lawInt Tryz.underlying84 Tryz.underlying3 (Tryz.zeroInt _) b _ _ rfl (HOA.out _) _ _ rfl HKEY.out ?_; intro c' hat hwc; have hcc := (coef_at hat).trans HC.out.symm; clear hat hwc; subst hcc))
        | (at_mapUpdate; go_must (refine wpList_mapUpdate_own _ rfl _ _ _ 84 rfl 3 3 Tryz.lawInt Tryz.underlying84 _ b _ _ rfl (HOA.out _) (by unfold maxLen; omega) _ _ _ rfl rfl HKEY.out _ [] (plainElem_int Tryz.underlying3 (wf_int (by omega))) ?_; intro w1 hown1 hgrow1; have HP1 := Hid.mk' (HPUT.out w1 _ hown1 hgrow1); clear hown1 hgrow1)))
      exact ⟨⟨k + 1, _, by go_num, by omega, HP1⟩, by simp [intOf]; omega⟩
    · obtain rfl : k = t.length := by omega
      go_wp2_with fail
      go_end0
      exact ⟨rfl, _, HI.out⟩
end Go.Proofs.YtklhfagcembigaaGreatDoor
