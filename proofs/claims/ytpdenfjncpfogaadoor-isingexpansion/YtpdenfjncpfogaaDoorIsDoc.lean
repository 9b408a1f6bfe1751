/- The document's SystemError; the law's system (a copy of the bonds) and tiny. -/
import Derived.Test.YtpdenfjncpfogaaDoorIsSys
namespace Go.Proofs.YtpdenfjncpfogaaDoor
open Go.RowKit

set_option maxRecDepth 100000 in
set_option maxHeartbeats 4000000 in
theorem SystemError_any (N : Int) (m : Nat) (ev : Value) (p q : Nat → Int) (w : World) (hG : EdAt w ev m p q) (hm : m ≤ 1000) :
    Calls Tryd.prog 15 #[.agg #[.int .i64 N, ev]] w fun e w' => e = .returned (.int .i64 (syE N m p q : Nat)) ∧ Below w.heap.size w w' := by
  obtain ⟨ad, cap, rfl, -⟩ := id hG
  have hmI : (m : Int) ≤ 1000 := by omega
  obtain ⟨w1, hw1⟩ : ∃ w1, w1 = w.alloc (.cells #[.int .i64 N, .slice ad m cap] 46) := ⟨_, rfl⟩
  have hb1 : Below w.heap.size w w1 := by rw [hw1]; exact (Below.refl _ _).alloc (Nat.le_refl _) _
  have hc0 : w1.cell? ⟨w.heap.size, 0, none⟩ = some (.int .i64 N) := by rw [hw1]; go_simp
  have hc1 : w1.cell? ⟨w.heap.size, 1, none⟩ = some (.slice ad m cap) := by rw [hw1]; go_simp
  have HG := Hid.mk' (hG.later hb1)
  have HW1 := Hid.mk' hw1
  have HEND := Hid.mk' hb1
  by_cases hbad : N < 0 ∨ 14 < N ∨ 30 < m
  · have HR : Hid (syE N m p q = 2) := by show _ = _; unfold syE; rw [if_pos hbad]
    by_cases h0 : N < 0
    · have h1d : decide (N < 0) = true := decide_eq_true h0
      clear hG hb1 hw1 hbad
      go_enter Tryd.func15, Tryd.ntmps15
      go_upto_region 1 with fail
      rw [← HW1.out]
      go_wp2_with fail
      go_ret
      exact ⟨by rw [HR.out]; rfl, HEND.out⟩
    · have h1d : decide (N < 0) = false := decide_eq_false h0
      by_cases h2 : 14 < N
      · have h2d : decide (14 < N) = true := decide_eq_true h2
        clear hG hb1 hw1 hbad
        go_enter Tryd.func15, Tryd.ntmps15
        go_upto_region 1 with fail
        rw [← HW1.out]
        go_wp2_with fail
        go_ret
        exact ⟨by rw [HR.out]; rfl, HEND.out⟩
      · have h2d : decide (14 < N) = false := decide_eq_false h2
        have h3I : (30 : Int) < (m : Int) := by omega
        have h3d : decide ((30 : Int) < (m : Int)) = true := decide_eq_true h3I
        clear hG hb1 hw1 hbad
        go_enter Tryd.func15, Tryd.ntmps15
        go_upto_region 1 with fail
        rw [← HW1.out]
        go_wp2_with fail
        go_ret
        exact ⟨by rw [HR.out]; rfl, HEND.out⟩
  · have h1d : decide (N < 0) = false := decide_eq_false (by omega)
    have h2d : decide (14 < N) = false := decide_eq_false (by omega)
    have h3I : ¬ (30 : Int) < (m : Int) := by omega
    have h3J : ¬ 30 < m := by omega
    have h3d : decide ((30 : Int) < (m : Int)) = false := decide_eq_false h3I
    have HR : Hid (syE N m p q = if bdsB N p q m then 0 else 3) := by show _ = _; unfold syE; rw [if_neg hbad]
    have HSH : Hid (∀ i, i < m → bdB N p q i = false → syE N m p q = 3) := fun i hi h => by rw [HR.out, bdsB_no hi h]; rfl
    clear hG hb1 hw1 hbad
    go_enter Tryd.func15, Tryd.ntmps15
    go_upto_region 1 with fail
    rw [← HW1.out]
    go_wp2_with fail
    go_loop [3] (fun i => ∃ k : Nat, k ≤ m ∧ i = .int .i64 k ∧ Hid (bdsB N p q k = true)) (fun i => m - (intOf i).toNat)
    case atStart => exact ⟨0, Nat.zero_le _, rfl, rfl⟩
    case round =>
      obtain ⟨k, hk, rfl, HK⟩ := hrel
      have hk0 : (0 : Int) ≤ (k : Int) := by omega
      rcases Nat.lt_or_ge k m with h1 | h1
      · have hkm : (k : Int) < (m : Int) := by omega
        obtain ⟨b, o, rfl, hT⟩ := HG.out.at h1
        obtain ⟨e0, e1⟩ := hT k h1
        have HN : Hid (bdsB N p q (k + 1) = bdB N p q k) := by show _ = _; rw [bdsB, HK.out, Bool.true_and]
        have HSK := Hid.mk' (HSH.out k h1)
        have HD : Hid (bdB N p q k = (hasB N (p k) && (hasB N (q k) && !(p k == q k)))) := rfl
        generalize bdB N p q k = BD at *
        generalize p k = P at *
        generalize q k = Q at *
        clear hT
        by_cases hp0 : P < 0
        · have hpd : decide (P < 0) = true := decide_eq_true hp0
          have HF := Hid.mk' (HSK.out (by rw [HD.out, hasB, decide_eq_false (by omega)]; rfl))
          go_wp2_with fail
          go_ret
          exact ⟨by rw [HF.out]; rfl, HEND.out⟩
        · have hpd : decide (P < 0) = false := decide_eq_false hp0
          by_cases hq0 : Q < 0
          · have hqd : decide (Q < 0) = true := decide_eq_true hq0
            have HF := Hid.mk' (HSK.out (by rw [HD.out]; simp only [hasB]; rw [decide_eq_false (show ¬ 0 ≤ Q by omega)]; simp))
            go_wp2_with fail
            go_ret
            exact ⟨by rw [HF.out]; rfl, HEND.out⟩
          · have hqd : decide (Q < 0) = false := decide_eq_false hq0
            by_cases hpN : N ≤ P
            · have hNd : decide (N ≤ P) = true := decide_eq_true hpN
              have HF := Hid.mk' (HSK.out (by rw [HD.out]; simp only [hasB]; rw [decide_eq_false (show ¬ P < N by omega)]; simp))
              go_wp2_with fail
              go_ret
              exact ⟨by rw [HF.out]; rfl, HEND.out⟩
            · have hNd : decide (N ≤ P) = false := decide_eq_false hpN
              by_cases hqN : N ≤ Q
              · have hMd : decide (N ≤ Q) = true := decide_eq_true hqN
                have HF := Hid.mk' (HSK.out (by rw [HD.out]; simp only [hasB]; rw [decide_eq_false (show ¬ Q < N by omega)]; simp))
                go_wp2_with fail
                go_ret
                exact ⟨by rw [HF.out]; rfl, HEND.out⟩
              · have hMd : decide (N ≤ Q) = false := decide_eq_false hqN
                by_cases hpq : P = Q
                · have hd : (P == Q) = true := by simpa using hpq
                  have HF := Hid.mk' (HSK.out (by rw [HD.out, hd]; simp))
                  clear hpq
                  go_wp2_with fail
                  go_ret
                  exact ⟨by rw [HF.out]; rfl, HEND.out⟩
                · have hd : (P == Q) = false := by simpa using hpq
                  have HF : Hid (bdsB N p q (k + 1) = true) := by show _ = _; rw [HN.out, HD.out, hd]; simp only [hasB]; rw [decide_eq_true (show 0 ≤ P by omega), decide_eq_true (show P < N by omega), decide_eq_true (show 0 ≤ Q by omega), decide_eq_true (show Q < N by omega)]; rfl
                  go_wp2_with fail
                  exact ⟨⟨k + 1, h1, by go_num, HF⟩, by simp [intOf]; omega⟩
      · obtain rfl : k = m := by omega
        have HF : Hid (syE N k p q = 0) := by show _ = _; rw [HR.out, HK.out]; rfl
        go_wp2_with fail
        go_ret
        exact ⟨by rw [HF.out]; rfl, HEND.out⟩

theorem Tryd.infoPair : (Tryd.prog.info? 57).map (fun i => (i.zero, i.size, i.bytes)) = some (some (.agg #[.int .i64 0, .int .i64 0]), 2, 16) := by kernel_rfl
theorem prAt_of_row {w : World} {base g n cap : Nat} {p c : Nat → Int} (h : w.ownsRow base 57 2 (.slice (some ⟨g, 0, none⟩) n cap) n (termCells p c n)) : TermsAt w g 0 n p c := by
  obtain ⟨hl, hr⟩ := h
  rcases hr with ⟨hx, _⟩ | ⟨g', cap', cur, hv, _, hh, _, _, hs, ht⟩
  · cases hx
  · obtain ⟨rfl, rfl⟩ : g = g' ∧ cap = cap' := by simpa using hv
    intro i hi
    obtain ⟨h1, h2⟩ := termCells_at p c n i hi
    have e : ∀ j, j < n * 2 → w.cell? ⟨g, 0 + j, none⟩ = (termCells p c n)[j]? := fun j hj => by
      rw [← ht, List.getElem?_take_of_lt hj]
      simp [World.cell?, hh]
    refine ⟨by rw [e _ (by omega)]; exact h1, ?_⟩
    rw [Nat.add_assoc, e _ (by omega)]; exact h2

/-- What the append has left of the three blocks ahead of it. -/
theorem gr_after {w w1 : World} {d0 d1 z0 z1 e0 e1 : Value} {t0 t : TypeId} {row : Option Nat} (hrow : row = none)
    (hg : (((w.alloc (.cells #[d0, d1] t0)).alloc (.cells #[z0, z1] t)).alloc (.cells #[e0, e1] t)).grownBy w1 row) :
    w1.cell? ⟨w.heap.size + 1, 0, none⟩ = some z0 ∧ w1.cell? ⟨w.heap.size + 1, 1, none⟩ = some z1 ∧ w1.cell? ⟨w.heap.size + 1 + 1, 0, none⟩ = some e0 ∧ w1.cell? ⟨w.heap.size + 1 + 1, 1, none⟩ = some e1 ∧
    w1.frozen? ⟨w.heap.size + 1, 0, none⟩ = false ∧ w1.frozen? ⟨w.heap.size + 1, 1, none⟩ = false ∧ w1.frozen? ⟨w.heap.size + 1 + 1, 0, none⟩ = false ∧ w1.frozen? ⟨w.heap.size + 1 + 1, 1, none⟩ = false ∧
    w.heap.size + 1 + 1 < w1.heap.size ∧ Below w.heap.size w w1 := by
  subst hrow
  have hb : Below (w.heap.size + 3) (((w.alloc (.cells #[d0, d1] t0)).alloc (.cells #[z0, z1] t)).alloc (.cells #[e0, e1] t)) w1 := (Below.refl _ _).grown hg (by simp) (fun k hk => by cases hk)
  have hs := hb.size
  simp at hs
  refine ⟨?_, ?_, ?_, ?_, ?_, ?_, ?_, ?_, by omega, ?_⟩
  · rw [hb.cell (p := ⟨w.heap.size + 1, 0, none⟩) (by show w.heap.size + 1 < w.heap.size + 3; omega), World.cell?_alloc_lt _ _ ⟨w.heap.size + 1, 0, none⟩ (by simp), World.cell?_alloc_at _ _ _ _ (by simp)]; rfl
  · rw [hb.cell (p := ⟨w.heap.size + 1, 1, none⟩) (by show w.heap.size + 1 < w.heap.size + 3; omega), World.cell?_alloc_lt _ _ ⟨w.heap.size + 1, 1, none⟩ (by simp), World.cell?_alloc_at _ _ _ _ (by simp)]; rfl
  · rw [hb.cell (p := ⟨w.heap.size + 1 + 1, 0, none⟩) (by show w.heap.size + 1 + 1 < w.heap.size + 3; omega), World.cell?_alloc_at _ _ _ _ (by simp)]; rfl
  · rw [hb.cell (p := ⟨w.heap.size + 1 + 1, 1, none⟩) (by show w.heap.size + 1 + 1 < w.heap.size + 3; omega), World.cell?_alloc_at _ _ _ _ (by simp)]; rfl
  · rw [hb.frozen (p := ⟨w.heap.size + 1, 0, none⟩) (by show w.heap.size + 1 < w.heap.size + 3; omega), World.frozen?_alloc_old _ _ ⟨w.heap.size + 1, 0, none⟩ (by simp)]; exact frozen_new (by simp)
  · rw [hb.frozen (p := ⟨w.heap.size + 1, 1, none⟩) (by show w.heap.size + 1 < w.heap.size + 3; omega), World.frozen?_alloc_old _ _ ⟨w.heap.size + 1, 1, none⟩ (by simp)]; exact frozen_new (by simp)
  · rw [hb.frozen (p := ⟨w.heap.size + 1 + 1, 0, none⟩) (by show w.heap.size + 1 + 1 < w.heap.size + 3; omega)]; exact frozen_new (by simp)
  · rw [hb.frozen (p := ⟨w.heap.size + 1 + 1, 1, none⟩) (by show w.heap.size + 1 + 1 < w.heap.size + 3; omega)]; exact frozen_new (by simp)
  · exact ((((Below.refl _ _).alloc (Nat.le_refl _) _).alloc (by simp) _).alloc (by simp; omega) _).trans (hb.mono (by omega))

set_option maxHeartbeats 1000000 in
theorem system_some (den : Int) (b o n cap : Nat) (p c : Nat → Int) (w : World) (ht : TermsAt w b o n p c) (hn0 : 0 < n) (hn : n ≤ 1000) :
    Calls Tryd.prog 17 #[.agg #[.int .i64 den, .slice (some ⟨b, o, none⟩) n cap]] w fun e w' => ∃ g cap', e = .returned (.agg #[.int .i64 den, .slice (some ⟨g, 0, none⟩) n cap']) ∧ TermsAt w' g 0 n p c ∧ Below w.heap.size w w' := by
  obtain ⟨i, hi, hi2⟩ := Option.map_eq_some_iff.1 Tryd.infoPair
  obtain ⟨hz, hsz, hby⟩ : i.zero = some (.agg #[.int .i64 0, .int .i64 0]) ∧ i.size = 2 ∧ i.bytes = 16 := by simpa using hi2
  have HT : Hid (∀ W, Below w.heap.size w W → TermsAt W b o n p c) := fun W hb k hk => ⟨by rw [hb.cell (cell_lt (ht k hk).1)]; exact (ht k hk).1, by rw [hb.cell (cell_lt (ht k hk).2)]; exact (ht k hk).2⟩
  have HI : Hid (Tryd.prog.info? 57 = some i) := hi
  have HZ : Hid (i.zero = some (.agg #[.int .i64 0, .int .i64 0])) := hz
  have HS : Hid (i.size = 2) := hsz
  have HY : Hid (i.bytes = 16) := hby
  have HL := termCells_length p c n
  have HC : Hid (∀ u, u ∈ termCells p c n → u.oneCell' = true) := fun u hu => by obtain ⟨x, rfl⟩ := termCells_ints p c n u hu; rfl
  clear ht hi2 hi hz hsz hby
  have HL' : Hid ((termCells p c n).length = n * 2) := HL
  clear HL
  have HB : Hid (Below w.heap.size w (((w.alloc (.cells #[.int .i64 den, .slice (some ⟨b, o, none⟩) n cap] 46)).alloc (.cells #[.int .i64 0, .slice none 0 0] 51)).alloc (.cells #[.int .i64 den, .slice none 0 0] 51))) := (((Below.refl _ _).alloc (Nat.le_refl _) _).alloc (by simp) _).alloc (by simp; omega) _
  go_enter Tryd.func17, Tryd.ntmps17
  go_wp2_with (at_builtin; go_must (refine wpList_append_lies _ rfl _ _ _ rfl w.heap.size 57 i _ 2 16 Tryd.underlying44 HI.out HZ.out HS.out HY.out rfl (by omega) (.slice none 0 0) 0 [] rfl ⟨rfl, Or.inl ⟨rfl, rfl⟩⟩ ⟨b, o, none⟩ n cap (termCells p c n) rfl HL'.out (fun j u hu => termCells_news (HT.out _ HB.out) j u hu) HC.out hn0 (by unfold maxLen; omega) (by omega) (by simp; omega) _ rfl ?_; intro g cap' w1 hown hgrow hat hlt; obtain ⟨f1, f2, f3, f4, f5, f6, f7, f8, f9, f10⟩ := gr_after rfl hgrow; have HOWN := Hid.mk' hown; have HAT := Hid.mk' hat; clear hown hgrow hat))
  refine bodyPost_ret (v := .agg #[.int .i64 den, .slice (some ⟨g, 0, none⟩) n cap']) (by simp [results, Tryd.results17, go_sem, f1, f2]) rfl ⟨g, cap', rfl, ?_, ?_⟩
  · have hT := prAt_of_row (p := p) (c := c) (by simpa using HOWN.out)
    have hgs : g = w.heap.size + 1 + 1 + 1 := by
      rcases HAT.out with h' | h'
      · cases h'
      · simpa using h'
    subst hgs
    intro k hk
    have h' := hT k hk
    refine ⟨?_, ?_⟩
    · rw [World.cell?_setCell_other _ _ _ _ (by simp), World.cell?_setCell_other _ _ _ _ (by simp), World.cell?_setCell_other _ _ _ _ (by simp)]; exact h'.1
    · rw [World.cell?_setCell_other _ _ _ _ (by simp), World.cell?_setCell_other _ _ _ _ (by simp), World.cell?_setCell_other _ _ _ _ (by simp)]; exact h'.2
  · exact ((f10.setCell (by simp; omega) _).setCell (by simp) _).setCell (by simp) _

theorem gr_append_zero (w : World) (ty : TypeId) (ad : Option Addr) (cap : Nat) : (Builtin.append_ #[44, 44] ty #[.slice none 0 0, .slice ad 0 cap]).run Tryd.prog w = .ok (.slice none 0 0) w := by
  obtain ⟨i, hi, hi2⟩ := Option.map_eq_some_iff.1 Tryd.infoPair
  refine run_append_nothing w _ _ ty 57 i Tryd.underlying44 hi none 0 0 (Nat.le_refl _) _ ?_
  cases ad with
  | none => exact Src.ofNil w Tryd.underlying44 cap
  | some a => exact Src.ofSlice w Tryd.underlying44 a 0 cap [] (by simp) (fun j u h => by simp at h) (fun u h => by simp at h)

theorem wpList_gr_zero {w : World} {ops : Array Oper} {rest : List Oper} {o : Oper} {a : Act} {Q : Exit → Act → World → Prop} (hgd : o.guard = none) (s x : Operand)
    (ho : o.op = .call { callee := .builtin .append, args := #[s, x], argTypes := #[44, 44] })
    (ad : Option Addr) (cap : Nat) (hs : a.eval s = .slice none 0 0) (hx : a.eval x = .slice ad 0 cap)
    (h : wpList Tryd.prog ops Q rest (a.put o.dst (.slice none 0 0)) w) : wpList Tryd.prog ops Q (o :: rest) a w := by
  refine wpList_plain hgd fun K hK => ?_
  have hrun := gr_append_zero w o.type ad cap
  unfold Oper.wp
  simp [execOp, ho, resolve, invoke, builtin, hs, hx, hrun, Result.andThen]
  exact hK _ _ h

set_option maxHeartbeats 1000000 in
theorem system_none (den : Int) (ad : Option Addr) (cap : Nat) (w : World) :
    Calls Tryd.prog 17 #[.agg #[.int .i64 den, .slice ad 0 cap]] w fun e w' => e = .returned (.agg #[.int .i64 den, .slice none 0 0]) ∧ Below w.heap.size w w' := by
  go_enter Tryd.func17, Tryd.ntmps17
  go_wp2_with (at_builtin; go_must (refine wpList_gr_zero rfl _ _ rfl ad cap rfl rfl ?_))
  refine bodyPost_ret (v := .agg #[.int .i64 den, .slice none 0 0]) (by simp [results, Tryd.results17, go_sem]) rfl ⟨rfl, ?_⟩
  exact (((Below.refl _ _).alloc (Nat.le_refl _) _).alloc (by simp) _).alloc (by simp; omega) _

theorem system_any (N : Int) (m : Nat) (ev : Value) (p q : Nat → Int) (w : World) (hG : EdAt w ev m p q) (hm : m ≤ 1000) :
    Calls Tryd.prog 17 #[.agg #[.int .i64 N, ev]] w fun e w' => ∃ v, e = .returned (.agg #[.int .i64 N, v]) ∧ EdAt w' v m p q ∧ Below w.heap.size w w' := by
  obtain ⟨ad, cap, rfl, h⟩ := hG
  rcases Nat.eq_zero_or_pos m with h0 | h0
  · subst h0
    refine (system_none N ad cap w).mono ?_
    rintro e w' ⟨rfl, hb⟩
    exact ⟨_, rfl, ⟨none, 0, rfl, Or.inl rfl⟩, hb⟩
  · obtain ⟨b, o, rfl, ht⟩ := h.resolve_left (by omega)
    refine (system_some N b o m cap p q w ht h0 hm).mono ?_
    rintro e w' ⟨g, cap', rfl, h1, hb⟩
    exact ⟨_, rfl, ⟨_, cap', rfl, Or.inr ⟨g, 0, rfl, h1⟩⟩, hb⟩
theorem tiny_any (N : Int) (ad : Option Addr) (n cap : Nat) (hn : n ≤ maxLen) (w : World) :
    Calls Tryd.prog 14 #[.agg #[.int .i64 N, .slice ad n cap]] w fun e w' => e = .returned (.bool (decide (n ≤ 200))) ∧ Below w.heap.size w w' := by
  unfold maxLen at hn
  by_cases h : n ≤ 200
  · rw [decide_eq_true h]
    go_enter Tryd.func14, Tryd.ntmps14
    go_wp2
    go_ret
    exact ⟨ret_bool (by simp; omega), (Below.refl _ _).alloc (Nat.le_refl _) _⟩
  · rw [decide_eq_false h]
    go_enter Tryd.func14, Tryd.ntmps14
    go_wp2
    go_ret
    exact ⟨ret_bool (by simp; omega), (Below.refl _ _).alloc (Nat.le_refl _) _⟩
end Go.Proofs.YtpdenfjncpfogaaDoor
