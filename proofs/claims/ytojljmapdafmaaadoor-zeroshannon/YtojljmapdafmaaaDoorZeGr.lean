/- The law's graph (a copy of the edges) and little. -/
import Derived.Test.YtojljmapdafmaaaDoorZeGE
namespace Go.Proofs.YtojljmapdafmaaaDoor
open Go.RowKit

theorem Tryd.infoPair : (Tryd.prog.info? 51).map (fun i => (i.zero, i.size, i.bytes)) = some (some (.agg #[.int .i64 0, .int .i64 0]), 2, 16) := by kernel_rfl
theorem prAt_of_row {w : World} {base g n cap : Nat} {p c : Nat → Int} (h : w.ownsRow base 51 2 (.slice (some ⟨g, 0, none⟩) n cap) n (termCells p c n)) : TermsAt w g 0 n p c := by
  obtain ⟨hl, hr⟩ := h
  rcases hr with ⟨hx, _⟩ | ⟨g', cap', cur, hv, _, hh, _, _, hs, ht⟩
  · cases hx
  · obtain ⟨rfl, rfl⟩ : g = g' ∧ cap = cap' := by simpa using hv
    intro i hi
    obtain ⟨h1, h2⟩ := termCells_at p c n i hi
    have e : ∀ j, j < n * 2 → w.cell? ⟨g, 0 + j, none⟩ = (termCells p c n)[j]? := fun j hj => by
      rw [← ht, List.getElem?_take_of_lt hj]
      simp [World.cell?, hh]
    refine ⟨by rw [e _ (by omega)]; exact h1, ?_⟩
    rw [Nat.add_assoc, e _ (by omega)]; exact h2

/-- What the append has left of the three blocks ahead of it. -/
theorem gr_after {w w1 : World} {d0 d1 z0 z1 e0 e1 : Value} {t0 t : TypeId} {row : Option Nat} (hrow : row = none)
    (hg : (((w.alloc (.cells #[d0, d1] t0)).alloc (.cells #[z0, z1] t)).alloc (.cells #[e0, e1] t)).grownBy w1 row) :
    w1.cell? ⟨w.heap.size + 1, 0, none⟩ = some z0 ∧ w1.cell? ⟨w.heap.size + 1, 1, none⟩ = some z1 ∧ w1.cell? ⟨w.heap.size + 1 + 1, 0, none⟩ = some e0 ∧ w1.cell? ⟨w.heap.size + 1 + 1, 1, none⟩ = some e1 ∧
    w1.frozen? ⟨w.heap.size + 1, 0, none⟩ = false ∧ w1.frozen? ⟨w.heap.size + 1, 1, none⟩ = false ∧ w1.frozen? ⟨w.heap.size + 1 + 1, 0, none⟩ = false ∧ w1.frozen? ⟨w.heap.size + 1 + 1, 1, none⟩ = false ∧
    w.heap.size + 1 + 1 < w1.heap.size ∧ Below w.heap.size w w1 := by
  subst hrow
  have hb : Below (w.heap.size + 3) (((w.alloc (.cells #[d0, d1] t0)).alloc (.cells #[z0, z1] t)).alloc (.cells #[e0, e1] t)) w1 := (Below.refl _ _).grown hg (by simp) (fun k hk => by cases hk)
  have hs := hb.size
  simp at hs
  refine ⟨?_, ?_, ?_, ?_, ?_, ?_, ?_, ?_, by omega, ?_⟩
  · rw [hb.cell (p := ⟨w.heap.size + 1, 0, none⟩) (by show w.heap.size + 1 < w.heap.size + 3; omega), World.cell?_alloc_lt _ _ ⟨w.heap.size + 1, 0, none⟩ (by simp), World.cell?_alloc_at _ _ _ _ (by simp)]; rfl
  · rw [hb.cell (p := ⟨w.heap.size + 1, 1, none⟩) (by show w.heap.size + 1 < w.heap.size + 3; omega), World.cell?_alloc_lt _ _ ⟨w.heap.size + 1, 1, none⟩ (by simp), World.cell?_alloc_at _ _ _ _ (by simp)]; rfl
  · rw [hb.cell (p := ⟨w.heap.size + 1 + 1, 0, none⟩) (by show w.heap.size + 1 + 1 < w.heap.size + 3; omega), World.cell?_alloc_at _ _ _ _ (by simp)]; rfl
  · rw [hb.cell (p := ⟨w.heap.size + 1 + 1, 1, none⟩) (by show w.heap.size + 1 + 1 < w.heap.size + 3; omega), World.cell?_alloc_at _ _ _ _ (by simp)]; rfl
  · rw [hb.frozen (p := ⟨w.heap.size + 1, 0, none⟩) (by show w.heap.size + 1 < w.heap.size + 3; omega), World.frozen?_alloc_old _ _ ⟨w.heap.size + 1, 0, none⟩ (by simp)]; exact frozen_new (by simp)
  · rw [hb.frozen (p := ⟨w.heap.size + 1, 1, none⟩) (by show w.heap.size + 1 < w.heap.size + 3; omega), World.frozen?_alloc_old _ _ ⟨w.heap.size + 1, 1, none⟩ (by simp)]; exact frozen_new (by simp)
  · rw [hb.frozen (p := ⟨w.heap.size + 1 + 1, 0, none⟩) (by show w.heap.size + 1 + 1 < w.heap.size + 3; omega)]; exact frozen_new (by simp)
  · rw [hb.frozen (p := ⟨w.heap.size + 1 + 1, 1, none⟩) (by show w.heap.size + 1 + 1 < w.heap.size + 3; omega)]; exact frozen_new (by simp)
  · exact ((((Below.refl _ _).alloc (Nat.le_refl _) _).alloc (by simp) _).alloc (by simp; omega) _).trans (hb.mono (by omega))

set_option maxHeartbeats 1000000 in
theorem graph_some (den : Int) (b o n cap : Nat) (p c : Nat → Int) (w : World) (ht : TermsAt w b o n p c) (hn0 : 0 < n) (hn : n ≤ 1000) :
    Calls Tryd.prog 12 #[.agg #[.int .i64 den, .slice (some ⟨b, o, none⟩) n cap]] w fun e w' => ∃ g cap', e = .returned (.agg #[.int .i64 den, .slice (some ⟨g, 0, none⟩) n cap']) ∧ TermsAt w' g 0 n p c ∧ Below w.heap.size w w' := by
  obtain ⟨i, hi, hi2⟩ := Option.map_eq_some_iff.1 Tryd.infoPair
  obtain ⟨hz, hsz, hby⟩ : i.zero = some (.agg #[.int .i64 0, .int .i64 0]) ∧ i.size = 2 ∧ i.bytes = 16 := by simpa using hi2
  have HT : Hid (∀ W, Below w.heap.size w W → TermsAt W b o n p c) := fun W hb k hk => ⟨by rw [hb.cell (cell_lt (ht k hk).1)]; exact (ht k hk).1, by rw [hb.cell (cell_lt (ht k hk).2)]; exact (ht k hk).2⟩
  have HI : Hid (Tryd.prog.info? 51 = some i) := hi
  have HZ : Hid (i.zero = some (.agg #[.int .i64 0, .int .i64 0])) := hz
  have HS : Hid (i.size = 2) := hsz
  have HY : Hid (i.bytes = 16) := hby
  have HL := termCells_length p c n
  have HC : Hid (∀ u, u ∈ termCells p c n → u.oneCell' = true) := fun u hu => by obtain ⟨x, rfl⟩ := termCells_ints p c n u hu; rfl
  clear ht hi2 hi hz hsz hby
  have HL' : Hid ((termCells p c n).length = n * 2) := HL
  clear HL
  have HB : Hid (Below w.heap.size w (((w.alloc (.cells #[.int .i64 den, .slice (some ⟨b, o, none⟩) n cap] 24)).alloc (.cells #[.int .i64 0, .slice none 0 0] 33)).alloc (.cells #[.int .i64 den, .slice none 0 0] 33))) := (((Below.refl _ _).alloc (Nat.le_refl _) _).alloc (by simp) _).alloc (by simp; omega) _
  go_enter Tryd.func12, Tryd.ntmps12
  go_wp2_with (at_builtin; go_must (refine wpList_append_lies _ rfl _ _ _ rfl w.heap.size 51 i _ 2 16 Tryd.underlying22 HI.out HZ.out HS.out HY.out rfl (by omega) (.slice none 0 0) 0 [] rfl ⟨rfl, Or.inl ⟨rfl, rfl⟩⟩ ⟨b, o, none⟩ n cap (termCells p c n) rfl HL'.out (fun j u hu => termCells_news (HT.out _ HB.out) j u hu) HC.out hn0 (by unfold maxLen; omega) (by omega) (by simp; omega) _ rfl ?_; intro g cap' w1 hown hgrow hat hlt; obtain ⟨f1, f2, f3, f4, f5, f6, f7, f8, f9, f10⟩ := gr_after rfl hgrow; have HOWN := Hid.mk' hown; have HAT := Hid.mk' hat; clear hown hgrow hat))
  refine bodyPost_ret (v := .agg #[.int .i64 den, .slice (some ⟨g, 0, none⟩) n cap']) (by simp [results, Tryd.results12, go_sem, f1, f2]) rfl ⟨g, cap', rfl, ?_, ?_⟩
  · have hT := prAt_of_row (p := p) (c := c) (by simpa using HOWN.out)
    have hgs : g = w.heap.size + 1 + 1 + 1 := by
      rcases HAT.out with h' | h'
      · cases h'
      · simpa using h'
    subst hgs
    intro k hk
    have h' := hT k hk
    refine ⟨?_, ?_⟩
    · rw [World.cell?_setCell_other _ _ _ _ (by simp), World.cell?_setCell_other _ _ _ _ (by simp), World.cell?_setCell_other _ _ _ _ (by simp)]; exact h'.1
    · rw [World.cell?_setCell_other _ _ _ _ (by simp), World.cell?_setCell_other _ _ _ _ (by simp), World.cell?_setCell_other _ _ _ _ (by simp)]; exact h'.2
  · exact ((f10.setCell (by simp; omega) _).setCell (by simp) _).setCell (by simp) _

theorem gr_append_zero (w : World) (ty : TypeId) (ad : Option Addr) (cap : Nat) : (Builtin.append_ #[22, 22] ty #[.slice none 0 0, .slice ad 0 cap]).run Tryd.prog w = .ok (.slice none 0 0) w := by
  obtain ⟨i, hi, hi2⟩ := Option.map_eq_some_iff.1 Tryd.infoPair
  refine run_append_nothing w _ _ ty 51 i Tryd.underlying22 hi none 0 0 (Nat.le_refl _) _ ?_
  cases ad with
  | none => exact Src.ofNil w Tryd.underlying22 cap
  | some a => exact Src.ofSlice w Tryd.underlying22 a 0 cap [] (by simp) (fun j u h => by simp at h) (fun u h => by simp at h)

theorem wpList_gr_zero {w : World} {ops : Array Oper} {rest : List Oper} {o : Oper} {a : Act} {Q : Exit → Act → World → Prop} (hgd : o.guard = none) (s x : Operand)
    (ho : o.op = .call { callee := .builtin .append, args := #[s, x], argTypes := #[22, 22] })
    (ad : Option Addr) (cap : Nat) (hs : a.eval s = .slice none 0 0) (hx : a.eval x = .slice ad 0 cap)
    (h : wpList Tryd.prog ops Q rest (a.put o.dst (.slice none 0 0)) w) : wpList Tryd.prog ops Q (o :: rest) a w := by
  refine wpList_plain hgd fun K hK => ?_
  have hrun := gr_append_zero w o.type ad cap
  unfold Oper.wp
  simp [execOp, ho, resolve, invoke, builtin, hs, hx, hrun, Result.andThen]
  exact hK _ _ h

set_option maxHeartbeats 1000000 in
theorem graph_none (den : Int) (ad : Option Addr) (cap : Nat) (w : World) :
    Calls Tryd.prog 12 #[.agg #[.int .i64 den, .slice ad 0 cap]] w fun e w' => e = .returned (.agg #[.int .i64 den, .slice none 0 0]) ∧ Below w.heap.size w w' := by
  go_enter Tryd.func12, Tryd.ntmps12
  go_wp2_with (at_builtin; go_must (refine wpList_gr_zero rfl _ _ rfl ad cap rfl rfl ?_))
  refine bodyPost_ret (v := .agg #[.int .i64 den, .slice none 0 0]) (by simp [results, Tryd.results12, go_sem]) rfl ⟨rfl, ?_⟩
  exact (((Below.refl _ _).alloc (Nat.le_refl _) _).alloc (by simp) _).alloc (by simp; omega) _

theorem graph_any (N : Int) (m : Nat) (ev : Value) (p q : Nat → Int) (w : World) (hG : EdAt w ev m p q) (hm : m ≤ 1000) :
    Calls Tryd.prog 12 #[.agg #[.int .i64 N, ev]] w fun e w' => ∃ v, e = .returned (.agg #[.int .i64 N, v]) ∧ EdAt w' v m p q ∧ Below w.heap.size w w' := by
  obtain ⟨ad, cap, rfl, h⟩ := hG
  rcases Nat.eq_zero_or_pos m with h0 | h0
  · subst h0
    refine (graph_none N ad cap w).mono ?_
    rintro e w' ⟨rfl, hb⟩
    exact ⟨_, rfl, ⟨none, 0, rfl, Or.inl rfl⟩, hb⟩
  · obtain ⟨b, o, rfl, ht⟩ := h.resolve_left (by omega)
    refine (graph_some N b o m cap p q w ht h0 hm).mono ?_
    rintro e w' ⟨g, cap', rfl, h1, hb⟩
    exact ⟨_, rfl, ⟨_, cap', rfl, Or.inr ⟨g, 0, rfl, h1⟩⟩, hb⟩
theorem little_any (N : Int) (ad : Option Addr) (n cap : Nat) (hn : n ≤ maxLen) (w : World) :
    Calls Tryd.prog 8 #[.agg #[.int .i64 N, .slice ad n cap]] w fun e w' => e = .returned (.bool (decide (n ≤ 200))) ∧ Below w.heap.size w w' := by
  unfold maxLen at hn
  by_cases h : n ≤ 200
  · rw [decide_eq_true h]
    go_enter Tryd.func8, Tryd.ntmps8
    go_wp2
    go_ret
    exact ⟨ret_bool (by simp; omega), (Below.refl _ _).alloc (Nat.le_refl _) _⟩
  · rw [decide_eq_false h]
    go_enter Tryd.func8, Tryd.ntmps8
    go_wp2
    go_ret
    exact ⟨ret_bool (by simp; omega), (Below.refl _ _).alloc (Nat.le_refl _) _⟩
end Go.Proofs.YtojljmapdafmaaaDoor
