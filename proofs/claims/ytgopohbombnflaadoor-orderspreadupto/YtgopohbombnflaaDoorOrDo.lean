/- The document's ApplyFault. -/
import Derived.Test.YtgopohbombnflaaDoorOrAp
namespace Go.Proofs.YtgopohbombnflaaDoor
open Go.RowKit

/-- A fault in a box of its own. -/
structure FltBx (w : World) (b : Nat) (x y : Int) : Prop where
  c0 : w.cell? ⟨b, 0, none⟩ = some (.int .i64 x)
  c1 : w.cell? ⟨b, 1, none⟩ = some (.int .i64 y)
  f0 : w.frozen? ⟨b, 0, none⟩ = false
  f1 : w.frozen? ⟨b, 1, none⟩ = false
theorem FltBx.later {w w' : World} {b : Nat} {x y : Int} (h : FltBx w b x y) (hb : Below w.heap.size w w') : FltBx w' b x y :=
  ⟨by rw [hb.cell (cell_lt h.c0)]; exact h.c0, by rw [hb.cell (cell_lt h.c1)]; exact h.c1, by rw [hb.frozen (show b < w.heap.size from cell_lt h.c0)]; exact h.f0, by rw [hb.frozen (show b < w.heap.size from cell_lt h.c0)]; exact h.f1⟩
theorem FltBx.fresh (w : World) (x y : Int) (t : TypeId) : FltBx (w.alloc (.cells #[.int .i64 x, .int .i64 y] t)) w.heap.size x y := ⟨by simp, by simp, by simp, by simp⟩
theorem FltBx.set {w : World} {b : Nat} {x y : Int} (h : FltBx w b x y) (x' y' : Int) : FltBx ((w.setCell ⟨b, 0, none⟩ (.int .i64 x')).setCell ⟨b, 1, none⟩ (.int .i64 y')) b x' y' := by
  refine ⟨?_, ?_, ?_, ?_⟩
  · rw [World.cell?_setCell_other _ _ _ _ (by simp)]; exact World.cell?_setCell_same _ _ _ h.c0
  · exact World.cell?_setCell_same _ _ _ (by rw [World.cell?_setCell_other _ _ _ _ (by simp)]; exact h.c1)
  · rw [World.frozen?_setCell, World.frozen?_setCell]; exact h.f0
  · rw [World.frozen?_setCell, World.frozen?_setCell]; exact h.f1
theorem fill_box {w W : World} {v : Value} {n : Nat} {f : Nat → Int} (h : FillV w W v n f) {B : Nat} (hB : B < w.heap.size) (x y : Value) : NumsAt ((W.setCell ⟨B, 0, none⟩ x).setCell ⟨B, 1, none⟩ y) v n f := by
  rcases h.2 with ⟨h0, hv⟩ | ⟨g, cap, hv, hf⟩
  · exact Or.inl ⟨_, _, hv, h0⟩
  · rcases Nat.eq_zero_or_pos n with h0 | h0
    · exact Or.inl ⟨_, _, by rw [hv, h0], h0⟩
    · refine Or.inr ⟨g, 0, cap, hv, h0, fun i hi => ?_⟩
      have hg := hf.hg
      rw [World.cell?_setCell_other _ _ _ _ (fun e => by have := congrArg Addr.block e; simp at this; omega), World.cell?_setCell_other _ _ _ _ (fun e => by have := congrArg Addr.block e; simp at this; omega)]
      exact hf.row i hi
/-- What is put behind nothing is a copy. -/
theorem wpList_append_copy {w : World} {ops : Array Oper} {rest : List Oper} {o : Oper} {a : Act} {Q : Exit → Act → World → Prop} (hgd : o.guard = none) (s x : Operand)
    (ho : o.op = .call { callee := .builtin .append, args := #[s, x], argTypes := #[22, 22] })
    (v : Value) (n : Nat) (z : Nat → Int) (hs : a.eval s = .slice none 0 0) (hx : a.eval x = v) (h : NumsAt w v n z) (hn : n ≤ 100000)
    (k : ∀ v' w', FillV w w' v' n z → wpList Tryd.prog ops Q rest (a.put o.dst v') w') : wpList Tryd.prog ops Q (o :: rest) a w := by
  rcases h with ⟨ad, cap, rfl, rfl⟩ | ⟨b, o', cap, rfl, h0, hr⟩
  · exact wpList_append_zeroI hgd s x ho ad cap hs hx (k _ _ ⟨Below.refl _ _, Or.inl ⟨rfl, rfl⟩⟩)
  · obtain ⟨i, hi, hi2⟩ := Option.map_eq_some_iff.1 Tryd.infoInt
    obtain ⟨hz, hsz, hby⟩ : i.zero = some (.int .i64 0) ∧ i.size = 1 ∧ i.bytes = 8 := by simpa using hi2
    refine wpList_append_lies w hgd s x 22 ho w.heap.size 3 i _ 1 8 Tryd.underlying22 hi hz hsz hby rfl (by omega) (.slice none 0 0) 0 [] hs ⟨rfl, Or.inl ⟨rfl, rfl⟩⟩ ⟨b, o', none⟩ n cap (numCells z n) hx (by rw [numCells_length, Nat.mul_one]) (fun j u hu => numCells_news hr j u hu) (fun u hu => by obtain ⟨x, rfl⟩ := numCells_ints z n u hu; rfl) h0 (by unfold maxLen; omega) (by omega) (Nat.le_refl _) _ rfl ?_
    intro g cap' w1 hown hgrow hat hlt
    have h1 : w1.ownsRow w.heap.size 3 1 (.slice (some ⟨g, 0, none⟩) (0 + n) cap') n (numCells z n) := by simpa using hown
    exact k _ _ (own_fill (by rw [Nat.zero_add] at h1 ⊢; exact h1) ((Below.refl _ _).grown hgrow (Nat.le_refl _) (fun k hk => by cases hk)))

set_option maxRecDepth 100000 in
set_option maxHeartbeats 4000000 in
theorem ApplyFault_any (v lv : Value) (n : Nat) (z : Nat → Int) (l : List MvI) (w : World) (h : NumsAt w v n z) (hl : MvAt w lv l) (hn : n ≤ 100000) (hll : l.length ≤ 100000) :
    Calls Tryd.prog 15 #[v, lv] w fun e w' => ∃ r, e = .returned (.tuple #[r, .agg #[.int .i64 ((apE n z l).1 : Int), .int .i64 (apE n z l).2]]) ∧ ((apE n z l).1 ≠ 0 → r = .slice none 0 0) ∧ ((apE n z l).1 = 0 → NumsAt w' r n (apZ n z l)) ∧ Below w.heap.size w w' := by
  obtain ⟨lad, lcap, rfl⟩ := hl.form
  obtain ⟨W, hW⟩ : ∃ W, W = w.alloc (.cells #[.int .i64 0, .int .i64 0] 40) := ⟨_, rfl⟩
  have hbW : Below w.heap.size w W := by rw [hW]; exact (Below.refl _ _).alloc (Nat.le_refl _) _
  have hsW : W.heap.size = w.heap.size + 1 := by rw [hW]; simp
  have HT : Hid (FltBx W w.heap.size 0 0) := by rw [hW]; exact FltBx.fresh _ _ _ _
  have hNu := Numbers_any v n z W (h.later hbW) (by omega)
  have HN := Hid.mk' (h.later hbW)
  obtain ⟨ad, cap, rfl⟩ := h.form
  have HL := Hid.mk' (fun (V : World) (hb : Below W.heap.size W V) => hl.later (below_chain hbW hb))
  have HTW := Hid.mk' (fun (V : World) (hb : Below W.heap.size W V) => HT.out.later hb)
  have HFIN : Hid (∀ (V : World) (x y : Int), Below W.heap.size W V → FltBx ((V.setCell ⟨w.heap.size, 0, none⟩ (.int .i64 x)).setCell ⟨w.heap.size, 1, none⟩ (.int .i64 y)) w.heap.size x y ∧ Below w.heap.size w ((V.setCell ⟨w.heap.size, 0, none⟩ (.int .i64 x)).setCell ⟨w.heap.size, 1, none⟩ (.int .i64 y))) := fun V x y hb => ⟨(HT.out.later hb).set x y, ((below_chain hbW hb).setCell (Nat.le_refl _) _).setCell (Nat.le_refl _) _⟩
  have HSW := Hid.mk' hsW
  clear h hl hbW hsW HT
  go_enter Tryd.func15, Tryd.ntmps15
  by_cases h4 : 16 < n ∨ 4000 < l.length
  · have HC : Hid (apE n z l = (2, -1)) := apE_big h4
    have hd : (16 : Int) < (n : Int) ∨ (¬ (16 : Int) < (n : Int) ∧ (4000 : Int) < (l.length : Int)) := by omega
    clear hNu h4
    rcases hd with h1 | ⟨h1, h2⟩
    all_goals
      go_wp2_with fail
      exact bodyPost_ret (v := .tuple #[.slice none 0 0, .agg #[.int .i64 2, .int .i64 (-1)]]) (by simp [results, Tryd.results15, go_sem]) rfl ⟨_, by rw [HC.out]; rfl, fun _ => rfl, (fun h => by rw [HC.out] at h; cases h), (Below.refl _ _).alloc (Nat.le_refl _) _⟩
  · have h1 : ¬ (16 : Int) < (n : Int) := by omega
    have h2 : ¬ (4000 : Int) < (l.length : Int) := by omega
    cases hno : noN z n with
    | true =>
      have HC : Hid (apE n z l = (3, -1)) := apE_none h4 hno
      rw [hno] at hNu
      clear h4 hno
      have q := HTW.out W (Below.refl _ _)
      have q0' := q.c0
      have q1' := q.c1
      have q2' := q.f0
      have q3' := q.f1
      obtain ⟨g, gb⟩ := HFIN.out W 3 (-1) (Below.refl _ _)
      have HG := Hid.mk' (And.intro g.c0 g.c1)
      have HGB := Hid.mk' gb
      clear q g gb
      go_wp2_with fail
      rw [← hW]
      refine hNu.mono ?_
      clear hNu
      rintro e w2 ⟨rfl, hw2⟩
      rw [hw2]
      clear hW hw2
      go_wp2_with fail
      obtain ⟨g0, g1⟩ := HG.out
      exact bodyPost_ret (v := .tuple #[.slice none 0 0, .agg #[.int .i64 3, .int .i64 (-1)]]) (by simp [results, Tryd.results15, go_sem, g0, g1]) rfl ⟨_, by rw [HC.out]; rfl, fun _ => rfl, (fun h => by rw [HC.out] at h; cases h), HGB.out⟩
    | false =>
      have HC := Hid.mk' (apE_go h4 hno)
      have HZ := Hid.mk' (noN_none hno)
      rw [hno] at hNu
      clear h4 hno
      go_wp2_with fail
      rw [← hW]
      refine hNu.mono ?_
      clear hNu
      rintro e w2 ⟨rfl, hw2⟩
      rw [hw2]
      clear hW hw2
      go_wp2_with (at_builtin; go_must (refine wpList_append_copy rfl _ _ rfl _ n z rfl rfl HN.out (by omega) ?_; intro v2 w3 hf2; obtain ⟨ad2, cap2, hv2⟩ := hf2.nums.form; subst hv2; have HF2 := Hid.mk' hf2; clear hf2))
      go_loopw [8] (fun t wr => ∃ (k : Nat) (f : Nat → Int), k ≤ l.length ∧ t = .int .i64 (k : Int) ∧ Hid (FillV W wr (.slice ad2 n cap2) n f) ∧ Hid (∀ j, j < n → 0 ≤ f j ∧ f j ≤ 4096) ∧ Hid (runM n z l 0 = runM n f (l.drop k) k)) (fun t _ => l.length - (intOf t).toNat)
      case atStart => exact ⟨0, z, Nat.zero_le _, rfl, HF2.out, HZ.out, rfl⟩
      case round =>
        clear HF2 HZ
        obtain ⟨k, f, hk, rfl, HF, HZ, HS⟩ := hrel
        rcases Nat.lt_or_ge k l.length with h3 | h3
        · obtain ⟨m, hm⟩ : ∃ m, l[k]? = some m := ⟨_, List.getElem?_eq_getElem h3⟩
          obtain ⟨b, o, rfl, x0, x1, x2⟩ := (HL.out wr HF.out.1).at hm
          have hkI : (k : Int) < (l.length : Int) := by omega
          have hk0 : (0 : Int) ≤ (k : Int) := by omega
          have hle := HF.out.1.size
          have hbA : Below wr.heap.size wr (wr.alloc (.cells #[.int .i64 m.f, .int .i64 m.t, .int .i64 m.s] 38)) := (Below.refl _ _).alloc (Nat.le_refl _) _
          have HFA := Hid.mk' (HF.out.later hbA)
          clear hbA
          cases hb : mvB n f m with
          | true =>
            have HR : Hid (apE n z l = (7, (k : Int))) := by show _ = _; rw [HC.out, run_bad HS.out hm hb]
            have hy := mvB_yes hb
            clear hb hm
            obtain ⟨mf, mt, ms⟩ := m
            simp only at x0 x1 x2 hy
            have q := HTW.out _ HFA.out.1
            have q0' := q.c0
            have q1' := q.c1
            have q2' := q.f0
            have q3' := q.f1
            obtain ⟨g, gb⟩ := HFIN.out _ 7 (k : Int) HFA.out.1
            have HG := Hid.mk' (And.intro g.c0 g.c1)
            have HGB := Hid.mk' gb
            clear q g gb
            have hy2 : (mf < 0 ∨ (¬ mf < 0 ∧ mt < 0) ∨ (¬ mf < 0 ∧ ¬ mt < 0 ∧ (n : Int) ≤ mf) ∨ (¬ mf < 0 ∧ ¬ mt < 0 ∧ ¬ (n : Int) ≤ mf ∧ (n : Int) ≤ mt) ∨ (¬ mf < 0 ∧ ¬ mt < 0 ∧ ¬ (n : Int) ≤ mf ∧ ¬ (n : Int) ≤ mt ∧ mf = mt)) ∨ (¬ mf < 0 ∧ ¬ mt < 0 ∧ ¬ (n : Int) ≤ mf ∧ ¬ (n : Int) ≤ mt ∧ mf ≠ mt ∧ (ms < 0 ∨ (¬ ms < 0 ∧ f mf.toNat - f mt.toNat < ms))) := by omega
            clear hy
            rcases hy2 with (h5 | ⟨h5, h6⟩ | ⟨h5, h6, h7⟩ | ⟨h5, h6, h7, h8⟩ | ⟨h5, h6, h7, h8, rfl⟩) | ⟨h5, h6, h7, h8, h9, h10⟩
            · go_wp2_with fail
              obtain ⟨g0, g1⟩ := HG.out
              exact bodyPost_ret (v := .tuple #[.slice none 0 0, .agg #[.int .i64 7, .int .i64 (k : Int)]]) (by simp [results, Tryd.results15, go_sem, g0, g1]) rfl ⟨_, by rw [HR.out]; rfl, fun _ => rfl, (fun h => by rw [HR.out] at h; cases h), HGB.out⟩
            · go_wp2_with fail
              obtain ⟨g0, g1⟩ := HG.out
              exact bodyPost_ret (v := .tuple #[.slice none 0 0, .agg #[.int .i64 7, .int .i64 (k : Int)]]) (by simp [results, Tryd.results15, go_sem, g0, g1]) rfl ⟨_, by rw [HR.out]; rfl, fun _ => rfl, (fun h => by rw [HR.out] at h; cases h), HGB.out⟩
            · go_wp2_with fail
              obtain ⟨g0, g1⟩ := HG.out
              exact bodyPost_ret (v := .tuple #[.slice none 0 0, .agg #[.int .i64 7, .int .i64 (k : Int)]]) (by simp [results, Tryd.results15, go_sem, g0, g1]) rfl ⟨_, by rw [HR.out]; rfl, fun _ => rfl, (fun h => by rw [HR.out] at h; cases h), HGB.out⟩
            · go_wp2_with fail
              obtain ⟨g0, g1⟩ := HG.out
              exact bodyPost_ret (v := .tuple #[.slice none 0 0, .agg #[.int .i64 7, .int .i64 (k : Int)]]) (by simp [results, Tryd.results15, go_sem, g0, g1]) rfl ⟨_, by rw [HR.out]; rfl, fun _ => rfl, (fun h => by rw [HR.out] at h; cases h), HGB.out⟩
            · have e1 : (mf == mf) = true := by simp
              go_wp2_with fail
              obtain ⟨g0, g1⟩ := HG.out
              exact bodyPost_ret (v := .tuple #[.slice none 0 0, .agg #[.int .i64 7, .int .i64 (k : Int)]]) (by simp [results, Tryd.results15, go_sem, g0, g1]) rfl ⟨_, by rw [HR.out]; rfl, fun _ => rfl, (fun h => by rw [HR.out] at h; cases h), HGB.out⟩
            · have e1 : (mf == mt) = false := by simp; exact h9
              rcases h10 with h10 | ⟨h10, h11⟩
              · have e2 : decide (ms < 0) = true := by simp; exact h10
                go_wp2_with fail
                go_quiet (fail)
                clear HG HGB q0' q1' q2' q3'
                have q := HTW.out _ (below_drewN HFA.out.1 nq)
                have q0' := q.c0
                have q1' := q.c1
                have q2' := q.f0
                have q3' := q.f1
                obtain ⟨g, gb⟩ := HFIN.out _ 7 (k : Int) (below_drewN HFA.out.1 nq)
                have HG := Hid.mk' (And.intro g.c0 g.c1)
                have HGB := Hid.mk' gb
                clear q g gb
                go_wp2_with fail
                obtain ⟨g0, g1⟩ := HG.out
                exact bodyPost_ret (v := .tuple #[.slice none 0 0, .agg #[.int .i64 7, .int .i64 (k : Int)]]) (by simp [results, Tryd.results15, go_sem, g0, g1]) rfl ⟨_, by rw [HR.out]; rfl, fun _ => rfl, (fun h => by rw [HR.out] at h; cases h), HGB.out⟩
              · have e2 : decide (ms < 0) = false := by simp; omega
                obtain ⟨i, rfl⟩ : ∃ i : Nat, mf = (i : Int) := ⟨mf.toNat, by omega⟩
                obtain ⟨j, rfl⟩ : ∃ j : Nat, mt = (j : Int) := ⟨mt.toNat, by omega⟩
                simp only [Int.toNat_natCast] at h11
                have hiN : i < n := by omega
                have hjN : j < n := by omega
                obtain ⟨g, cp, hg, hfl⟩ := HFA.out.some (by omega)
                obtain ⟨rfl, rfl⟩ : ad2 = some ⟨g, 0, none⟩ ∧ cap2 = cp := by simpa using hg
                have a1 := HZ.out i hiN
                have a2 := HZ.out j hjN
                have r1 := hfl.row i hiN
                have r2 := hfl.row j hjN
                rw [Nat.zero_add] at r1 r2
                generalize f i = fi at *
                generalize f j = fj at *
                have e3 : decide (fi - fj < ms) = true := by simp; exact h11
                clear hfl hg
                go_wp2_with fail
                go_quiet (fail)
                clear HG HGB q0' q1' q2' q3'
                have q := HTW.out _ (below_drewN HFA.out.1 nq)
                have q0' := q.c0
                have q1' := q.c1
                have q2' := q.f0
                have q3' := q.f1
                obtain ⟨g, gb⟩ := HFIN.out _ 7 (k : Int) (below_drewN HFA.out.1 nq)
                have HG := Hid.mk' (And.intro g.c0 g.c1)
                have HGB := Hid.mk' gb
                clear q g gb
                go_wp2_with fail
                obtain ⟨g0, g1⟩ := HG.out
                exact bodyPost_ret (v := .tuple #[.slice none 0 0, .agg #[.int .i64 7, .int .i64 (k : Int)]]) (by simp [results, Tryd.results15, go_sem, g0, g1]) rfl ⟨_, by rw [HR.out]; rfl, fun _ => rfl, (fun h => by rw [HR.out] at h; cases h), HGB.out⟩
          | false =>
            have HSN := Hid.mk' (run_next HS.out hm hb)
            have HZN := Hid.mk' (mvS_right hb HZ.out)
            obtain ⟨y1, y2, y3, y4, y5, y6, y7⟩ := mvB_no hb
            clear hb hm
            obtain ⟨mf, mt, ms⟩ := m
            simp only at x0 x1 x2 y1 y2 y3 y4 y5 y6 y7
            obtain ⟨i, rfl⟩ : ∃ i : Nat, mf = (i : Int) := ⟨mf.toNat, by omega⟩
            obtain ⟨j, rfl⟩ : ∃ j : Nat, mt = (j : Int) := ⟨mt.toNat, by omega⟩
            simp only [Int.toNat_natCast] at y7
            have hiN : i < n := by omega
            have hjN : j < n := by omega
            have hij : j ≠ i := by omega
            obtain ⟨g, cp, hg, hfl⟩ := HFA.out.some (by omega)
            obtain ⟨rfl, rfl⟩ : ad2 = some ⟨g, 0, none⟩ ∧ cap2 = cp := by simpa using hg
            have hgw : g ≠ wr.heap.size := by
              intro e
              rcases HF.out.some (by omega) with ⟨g', cp', hg', hfl'⟩
              have e2 : g' = g := by have := hg'.symm; simp at this; exact this.1
              have := cell_lt (hfl'.row i hiN)
              simp only at this
              omega
            have a1 := HZ.out i hiN
            have a2 := HZ.out j hjN
            have r1 := hfl.row i hiN
            have r2 := hfl.row j hjN
            have f1 := hfl.fz i hiN
            have f2 := hfl.fz j hjN
            rw [Nat.zero_add] at r1 r2 f1 f2
            obtain ⟨fi, hfi⟩ : ∃ x, x = f i := ⟨_, rfl⟩
            obtain ⟨fj, hfj⟩ : ∃ x, x = f j := ⟨_, rfl⟩
            rw [← hfi] at r1 a1 y7
            rw [← hfj] at r2 a2 y7
            have HFL := Hid.mk' hfl
            have HFS : Hid (∀ V : World, Fills W V g n f → Fills W ((V.setCell ⟨g, i, none⟩ (.int .i64 (fi - ms))).setCell ⟨g, j, none⟩ (.int .i64 (fj + ms))) g n (mvS f ⟨(i : Int), (j : Int), ms⟩)) := fun V hV =>
              (hV.set hiN (fi - ms) (f' := setF f i (fi - ms)) (fun c _ => rfl)).set hjN (fj + ms) (f' := mvS f ⟨(i : Int), (j : Int), ms⟩) (fun c _ => by rw [hfi, hfj]; rfl)
            have hne0 : (⟨g, i, none⟩ : Addr) ≠ ⟨wr.heap.size, 0, none⟩ := fun e => hgw (congrArg Addr.block e)
            have hne1 : (⟨g, i, none⟩ : Addr) ≠ ⟨wr.heap.size, 1, none⟩ := fun e => hgw (congrArg Addr.block e)
            have hne2 : (⟨g, i, none⟩ : Addr) ≠ ⟨wr.heap.size, 2, none⟩ := fun e => hgw (congrArg Addr.block e)
            have e1 : ((i : Int) == (j : Int)) = false := by simp; omega
            have e2 : decide (ms < 0) = false := by simp; omega
            have e3 : decide (fi - fj < ms) = false := by simp; omega
            have q0 : (wr.alloc (.cells #[.int .i64 (i : Int), .int .i64 (j : Int), .int .i64 ms] 38)).cell? ⟨wr.heap.size, 0, none⟩ = some (.int .i64 (i : Int)) := by simp
            have q1 : (wr.alloc (.cells #[.int .i64 (i : Int), .int .i64 (j : Int), .int .i64 ms] 38)).cell? ⟨wr.heap.size, 1, none⟩ = some (.int .i64 (j : Int)) := by simp
            have q2 : (wr.alloc (.cells #[.int .i64 (i : Int), .int .i64 (j : Int), .int .i64 ms] 38)).cell? ⟨wr.heap.size, 2, none⟩ = some (.int .i64 ms) := by simp
            clear hg hfl hfi hfj HFA
            generalize hWA : wr.alloc (.cells #[.int .i64 (i : Int), .int .i64 (j : Int), .int .i64 ms] 38) = WA at *
            go_wp2_with fail
            go_quiet (fail)
            have q0b : (WA.drewN nq).cell? ⟨wr.heap.size, 0, none⟩ = some (.int .i64 (i : Int)) := q0
            have q1b : (WA.drewN nq).cell? ⟨wr.heap.size, 1, none⟩ = some (.int .i64 (j : Int)) := q1
            have q2b : (WA.drewN nq).cell? ⟨wr.heap.size, 2, none⟩ = some (.int .i64 ms) := q2
            have r1b : (WA.drewN nq).cell? ⟨g, i, none⟩ = some (.int .i64 fi) := r1
            have r2b : (WA.drewN nq).cell? ⟨g, j, none⟩ = some (.int .i64 fj) := r2
            have f1b : (WA.drewN nq).frozen? ⟨g, i, none⟩ = false := f1
            have f2b : (WA.drewN nq).frozen? ⟨g, j, none⟩ = false := f2
            have HFB : Hid (Fills W (WA.drewN nq) g n f) := ⟨HFL.out.row, HFL.out.fz, below_drewN HFL.out.below nq, HFL.out.hg⟩
            clear q0 q1 q2 r1 r2 f1 f2 HFL
            generalize WA.drewN nq = WB at *
            have s1 : (WB.setCell ⟨g, i, none⟩ (.int .i64 (fi - ms))).cell? ⟨wr.heap.size, 1, none⟩ = some (.int .i64 (j : Int)) := by rw [World.cell?_setCell_other _ _ _ _ hne1]; exact q1b
            have s2 : (WB.setCell ⟨g, i, none⟩ (.int .i64 (fi - ms))).cell? ⟨wr.heap.size, 2, none⟩ = some (.int .i64 ms) := by rw [World.cell?_setCell_other _ _ _ _ hne2]; exact q2b
            have s3 : (WB.setCell ⟨g, i, none⟩ (.int .i64 (fi - ms))).cell? ⟨g, j, none⟩ = some (.int .i64 fj) := by
              rw [World.cell?_setCell_other _ _ _ _ (fun e => hij (by have := congrArg Addr.off e; simp at this; omega))]; exact r2b
            have s4 : (WB.setCell ⟨g, i, none⟩ (.int .i64 (fi - ms))).frozen? ⟨g, j, none⟩ = false := by rw [World.frozen?_setCell]; exact f2b
            have HF5 := Hid.mk' (HFS.out WB HFB.out)
            clear HFS HFB
            clear hne0 hne1 hne2 hgw
            go_wp2_with fail
            go_region
            go_wp2_with fail
            go_region
            go_wp2_with fail
            exact ⟨⟨k + 1, mvS f ⟨(i : Int), (j : Int), ms⟩, h3, by go_num, ⟨HF5.out.drew.drew.below, Or.inr ⟨g, cap2, rfl, HF5.out.drew.drew⟩⟩, HZN.out, HSN.out⟩, by simp [intOf]; omega⟩
        · obtain rfl : k = l.length := by omega
          have hkI : ¬ (l.length : Int) < (l.length : Int) := by omega
          have HR0 := Hid.mk' (run_end HS.out)
          have HR : Hid (apE n z l = (0, -1)) := by show _ = _; rw [HC.out, HR0.out]
          have HV : Hid (apZ n z l = f) := by show _ = _; unfold apZ; rw [HR0.out]
          have q := HTW.out _ HF.out.1
          have q0' := q.c0
          have q1' := q.c1
          have q2' := q.f0
          have q3' := q.f1
          obtain ⟨g, gb⟩ := HFIN.out _ 0 (-1) HF.out.1
          have HG := Hid.mk' (And.intro g.c0 g.c1)
          have HGB := Hid.mk' gb
          have HNF := Hid.mk' (fill_box HF.out (B := w.heap.size) (by rw [HSW.out]; omega) (.int .i64 0) (.int .i64 (-1)))
          clear q g gb
          go_wp2_with fail
          obtain ⟨g0, g1⟩ := HG.out
          exact bodyPost_ret (v := .tuple #[.slice ad2 n cap2, .agg #[.int .i64 0, .int .i64 (-1)]]) (by simp [results, Tryd.results15, go_sem, g0, g1]) rfl ⟨_, by rw [HR.out]; rfl, (fun h => absurd (by rw [HR.out]) h), (fun _ => by rw [HV.out]; exact HNF.out), HGB.out⟩
end Go.Proofs.YtgopohbombnflaaDoor
