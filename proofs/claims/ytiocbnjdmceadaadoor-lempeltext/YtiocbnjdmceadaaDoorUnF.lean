/- The document's CopiesFault. -/
import Derived.Test.YtiocbnjdmceadaaDoorUnD
namespace Go.Proofs.YtiocbnjdmceadaaDoor
open Go.RowKit

/-- Two numbers in a box of their own. -/
structure Two2 (w : World) (b : Nat) (x y : Int) : Prop where
  c0 : w.cell? ⟨b, 0, none⟩ = some (.int .i64 x)
  c1 : w.cell? ⟨b, 1, none⟩ = some (.int .i64 y)
  f0 : w.frozen? ⟨b, 0, none⟩ = false
  f1 : w.frozen? ⟨b, 1, none⟩ = false
theorem Two2.later {w w' : World} {b : Nat} {x y : Int} (h : Two2 w b x y) (hb : Below w.heap.size w w') : Two2 w' b x y :=
  ⟨by rw [hb.cell (cell_lt h.c0)]; exact h.c0, by rw [hb.cell (cell_lt h.c1)]; exact h.c1, by rw [hb.frozen (show b < w.heap.size from cell_lt h.c0)]; exact h.f0, by rw [hb.frozen (show b < w.heap.size from cell_lt h.c0)]; exact h.f1⟩
theorem Two2.fresh (w : World) (x y : Int) (t : TypeId) : Two2 (w.alloc (.cells #[.int .i64 x, .int .i64 y] t)) w.heap.size x y := ⟨by simp, by simp, by simp, by simp⟩
theorem Two2.set {w : World} {b : Nat} {x y : Int} (h : Two2 w b x y) (x' y' : Int) : Two2 ((w.setCell ⟨b, 0, none⟩ (.int .i64 x')).setCell ⟨b, 1, none⟩ (.int .i64 y')) b x' y' := by
  refine ⟨?_, ?_, ?_, ?_⟩
  · rw [World.cell?_setCell_other _ _ _ _ (by simp)]; exact World.cell?_setCell_same _ _ _ h.c0
  · exact World.cell?_setCell_same _ _ _ (by rw [World.cell?_setCell_other _ _ _ _ (by simp)]; exact h.c1)
  · rw [World.frozen?_setCell, World.frozen?_setCell]; exact h.f0
  · rw [World.frozen?_setCell, World.frozen?_setCell]; exact h.f1

set_option maxRecDepth 100000 in
set_option maxHeartbeats 4000000 in
theorem CopiesFault_any (v : Value) (l : List CpI) (w : World) (h : CpiAt w v l) (hn : l.length ≤ 1000000) :
    Calls Tryd.prog 19 #[v] w fun e w' => e = .returned (.agg #[.int .i64 ((cpE l).1 : Int), .int .i64 (cpE l).2]) ∧ Below w.heap.size w w' := by
  obtain ⟨ad, cap, rfl⟩ := h.form
  obtain ⟨W, hW⟩ : ∃ W, W = w.alloc (.cells #[.int .i64 0, .int .i64 0] 36) := ⟨_, rfl⟩
  have hbW : Below w.heap.size w W := by rw [hW]; exact (Below.refl _ _).alloc (Nat.le_refl _) _
  have hsW : W.heap.size = w.heap.size + 1 := by rw [hW]; simp
  have HT : Hid (Two2 W w.heap.size 0 0) := by rw [hW]; exact Two2.fresh _ _ _ _
  have HL := Hid.mk' (fun (V : World) (hb : Below W.heap.size W V) => h.later (below_chain hbW hb))
  have HBW := Hid.mk' (fun (V : World) (hb : Below W.heap.size W V) => below_chain hbW hb)
  have HTW := Hid.mk' (fun (V : World) (hb : Below W.heap.size W V) => HT.out.later hb)
  have HFIN : Hid (∀ (V : World) (x y : Int), Below W.heap.size W V → Two2 ((V.setCell ⟨w.heap.size, 0, none⟩ (.int .i64 x)).setCell ⟨w.heap.size, 1, none⟩ (.int .i64 y)) w.heap.size x y ∧ Below w.heap.size w ((V.setCell ⟨w.heap.size, 0, none⟩ (.int .i64 x)).setCell ⟨w.heap.size, 1, none⟩ (.int .i64 y))) := fun V x y hb => ⟨(HT.out.later hb).set x y, ((below_chain hbW hb).setCell (Nat.le_refl _) _).setCell (Nat.le_refl _) _⟩
  have HSW := Hid.mk' hsW
  clear h hbW hsW HT
  go_enter Tryd.func19, Tryd.ntmps19
  by_cases h4 : 4000 < l.length
  · have h4I : (4000 : Int) < (l.length : Int) := by omega
    have HC : Hid (cpE l = (2, -1)) := by show _ = _; unfold cpE; rw [if_pos h4]
    go_wp2_with fail
    exact bodyPost_ret (v := .agg #[.int .i64 2, .int .i64 (-1)]) (by simp [results, Tryd.results19, go_sem]) rfl ⟨by rw [HC.out]; rfl, (Below.refl _ _).alloc (Nat.le_refl _) _⟩
  · have h4I : ¬ (4000 : Int) < (l.length : Int) := by omega
    have HC : Hid (cpE l = if l.any (fun c => decide (4000 < c.len)) = true then (2, -1) else match scanC l.length l 0 0 with | .inl i => (3, (i : Int)) | .inr s => if 4000 < s then (2, -1) else (0, -1)) := by show _ = _; unfold cpE; rw [if_neg h4]; rfl
    go_wp2_with fail
    rw [← hW]
    clear hW
    go_loopw [3] (fun t wr => ∃ k : Nat, k ≤ l.length ∧ t = .int .i64 (k : Int) ∧ Hid (Below W.heap.size W wr) ∧ Hid (∀ j c, j < k → l[j]? = some c → ¬ 4000 < c.len)) (fun t _ => l.length - (intOf t).toNat)
    case atStart => exact ⟨0, Nat.zero_le _, rfl, Below.refl _ _, fun j c h => by omega⟩
    case round =>
      obtain ⟨k, hk, rfl, HB, HK⟩ := hrel
      rcases Nat.lt_or_ge k l.length with h1 | h1
      · obtain ⟨c, hc⟩ : ∃ c, l[k]? = some c := ⟨_, List.getElem?_eq_getElem h1⟩
        obtain ⟨b, o, rfl, x0, x1, x2, x3⟩ := (HL.out wr HB.out).at hc
        have hkI : (k : Int) < (l.length : Int) := by omega
        have hk0 : (0 : Int) ≤ (k : Int) := by omega
        by_cases h2 : 4000 < c.len
        · have HF : Hid (cpE l = (2, -1)) := by show _ = _; rw [HC.out, if_pos (any_at hc h2)]
          have q := HTW.out _ HB.out
          have q0' := q.c0
          have q1' := q.c1
          have q2' := q.f0
          have q3' := q.f1
          obtain ⟨g, gb⟩ := HFIN.out _ 2 (-1) HB.out
          have HG := Hid.mk' (And.intro g.c0 g.c1)
          have HGB := Hid.mk' gb
          clear q g gb
          go_wp2_with fail
          obtain ⟨g0, g1⟩ := HG.out
          exact bodyPost_ret (v := .agg #[.int .i64 2, .int .i64 (-1)]) (by simp [results, Tryd.results19, go_sem, g0, g1]) rfl ⟨by rw [HF.out]; rfl, HGB.out⟩
        · have HK2 : Hid (∀ j c, j < k + 1 → l[j]? = some c → ¬ 4000 < c.len) := fun j d hj hd => by
            rcases Nat.lt_or_ge j k with h3 | h3
            · exact HK.out j d h3 hd
            · obtain rfl : j = k := by omega
              rw [hc] at hd
              obtain rfl := Option.some.inj hd
              exact h2
          go_wp2_with fail
          exact ⟨⟨k + 1, h1, by go_num, HB.out, HK2.out⟩, by simp [intOf]; omega⟩
      · obtain rfl : k = l.length := by omega
        have hkI : ¬ (l.length : Int) < (l.length : Int) := by omega
        have HLN : Hid (∀ (i : Nat) (c : CpI), l[i]? = some c → ¬ 4000 < c.len) := fun i c hc => HK.out i c (by
          rcases Nat.lt_or_ge i l.length with h' | h'
          · exact h'
          · rw [List.getElem?_eq_none h'] at hc; cases hc) hc
        have HA : Hid (l.any (fun c => decide (4000 < c.len)) = false) := any_none HLN.out
        have HC2 : Hid (cpE l = match scanC l.length l 0 0 with | .inl i => (3, (i : Int)) | .inr s => if 4000 < s then (2, -1) else (0, -1)) := by show _ = _; rw [HC.out, HA.out]; rfl
        clear HK HA HC
        go_wp2_with fail
        go_loopw [4, 5] (fun s t wr => ∃ k m : Nat, k ≤ l.length ∧ t = .int .i64 (k : Int) ∧ s = .int .i64 (m : Int) ∧ m ≤ k * 4001 ∧ Hid (Below W.heap.size W wr) ∧ Hid (scanC l.length l 0 0 = scanC l.length (l.drop k) k m)) (fun _ t _ => l.length - (intOf t).toNat)
        case atStart => exact ⟨0, 0, Nat.zero_le _, rfl, rfl, Nat.zero_le _, HB.out, rfl⟩
        case round =>
          clear HB
          obtain ⟨k, m, hk, rfl, rfl, hm, HB, HS⟩ := hrel
          rcases Nat.lt_or_ge k l.length with h1 | h1
          · obtain ⟨c, hc⟩ : ∃ c, l[k]? = some c := ⟨_, List.getElem?_eq_getElem h1⟩
            obtain ⟨b, o, rfl, x0, x1, x2, x3⟩ := (HL.out wr HB.out).at hc
            have hkI : (k : Int) < (l.length : Int) := by omega
            have hk0 : (0 : Int) ≤ (k : Int) := by omega
            have hl4 := HLN.out k c hc
            have hle := HB.out.size
            have HS2 : Hid (scanC l.length l 0 0 = scanC l.length (c :: l.drop (k + 1)) k m) := by show _ = _; rw [HS.out, drop_at hc]
            have hm2 : m ≤ 16004000 := by omega
            obtain ⟨cb, cl, cn, ct⟩ := c
            have HBA : Hid (Below W.heap.size W (wr.alloc (.cells #[.int .i64 cb, .int .i64 cl, .int .u8 (cn.toNat : Int), .bool ct] 50))) := HB.out.alloc hle _
            cases hb : badC l.length k m ⟨cb, cl, cn, ct⟩ with
            | true =>
              have HF : Hid (cpE l = (3, (k : Int))) := by show _ = _; rw [HC2.out, HS2.out, scanC_bad hb]
              have hy := badC_yes hb
              clear hb hc
              simp only at x0 x1 x2 x3 hy hl4
              clear HB
              have HB := HBA
              rcases hy with hy | ⟨hy, hz⟩ | ⟨hy, hz, hu⟩ | ⟨hy, hz, hu, ht, hs⟩ | ⟨hy, hz, hu, ht, hs⟩ | ⟨hy, hz, hu, ht, hs, hr⟩
              · have q := HTW.out _ HB.out
                have q0' := q.c0
                have q1' := q.c1
                have q2' := q.f0
                have q3' := q.f1
                obtain ⟨g, gb⟩ := HFIN.out _ 3 (k : Int) HB.out
                have HG := Hid.mk' (And.intro g.c0 g.c1)
                have HGB := Hid.mk' gb
                clear q g gb
                go_wp2_with fail
                obtain ⟨g0, g1⟩ := HG.out
                exact bodyPost_ret (v := .agg #[.int .i64 3, .int .i64 (k : Int)]) (by simp [results, Tryd.results19, go_sem, g0, g1]) rfl ⟨by rw [HF.out]; rfl, HGB.out⟩
              · have q := HTW.out _ HB.out
                have q0' := q.c0
                have q1' := q.c1
                have q2' := q.f0
                have q3' := q.f1
                obtain ⟨g, gb⟩ := HFIN.out _ 3 (k : Int) HB.out
                have HG := Hid.mk' (And.intro g.c0 g.c1)
                have HGB := Hid.mk' gb
                clear q g gb
                go_wp2_with fail
                obtain ⟨g0, g1⟩ := HG.out
                exact bodyPost_ret (v := .agg #[.int .i64 3, .int .i64 (k : Int)]) (by simp [results, Tryd.results19, go_sem, g0, g1]) rfl ⟨by rw [HF.out]; rfl, HGB.out⟩
              · have q := HTW.out _ HB.out
                have q0' := q.c0
                have q1' := q.c1
                have q2' := q.f0
                have q3' := q.f1
                obtain ⟨g, gb⟩ := HFIN.out _ 3 (k : Int) HB.out
                have HG := Hid.mk' (And.intro g.c0 g.c1)
                have HGB := Hid.mk' gb
                clear q g gb
                go_wp2_with fail
                obtain ⟨g0, g1⟩ := HG.out
                exact bodyPost_ret (v := .agg #[.int .i64 3, .int .i64 (k : Int)]) (by simp [results, Tryd.results19, go_sem, g0, g1]) rfl ⟨by rw [HF.out]; rfl, HGB.out⟩
              · subst ht
                have q := HTW.out _ HB.out
                have q0' := q.c0
                have q1' := q.c1
                have q2' := q.f0
                have q3' := q.f1
                obtain ⟨g, gb⟩ := HFIN.out _ 3 (k : Int) HB.out
                have HG := Hid.mk' (And.intro g.c0 g.c1)
                have HGB := Hid.mk' gb
                clear q g gb
                go_wp2_with fail
                obtain ⟨g0, g1⟩ := HG.out
                exact bodyPost_ret (v := .agg #[.int .i64 3, .int .i64 (k : Int)]) (by simp [results, Tryd.results19, go_sem, g0, g1]) rfl ⟨by rw [HF.out]; rfl, HGB.out⟩
              · have hv : (cb == 0) = false := by rw [beq_eq_false_iff_ne]; omega
                subst hs
                have q := HTW.out _ HB.out
                have q0' := q.c0
                have q1' := q.c1
                have q2' := q.f0
                have q3' := q.f1
                obtain ⟨g, gb⟩ := HFIN.out _ 3 (k : Int) HB.out
                have HG := Hid.mk' (And.intro g.c0 g.c1)
                have HGB := Hid.mk' gb
                clear q g gb
                go_wp2_with fail
                obtain ⟨g0, g1⟩ := HG.out
                exact bodyPost_ret (v := .agg #[.int .i64 3, .int .i64 (k : Int)]) (by simp [results, Tryd.results19, go_sem, g0, g1]) rfl ⟨by rw [HF.out]; rfl, HGB.out⟩
              · subst hs
                have hq : ((cb == 0) = true ∧ (cl == 0) = true ∧ ¬ 0 < cl ∧ ¬ 0 < cb) ∨ ((cb == 0) = false ∧ (cl == 0) = false ∧ 0 < cl ∧ 0 < cb) := by
                  rcases ht with ⟨h1, h2⟩ | ⟨h1, h2⟩
                  · exact Or.inl ⟨by rw [beq_iff_eq]; exact h1, by rw [beq_iff_eq]; exact h2, by omega, by omega⟩
                  · exact Or.inr ⟨by rw [beq_eq_false_iff_ne]; omega, by rw [beq_eq_false_iff_ne]; omega, h2, h1⟩
                have hk1 : ((k : Int) + 1 < (l.length : Int)) ∨ (¬ ((k : Int) + 1 < (l.length : Int)) ∧ (cl == 0) = true) ∨ (¬ ((k : Int) + 1 < (l.length : Int)) ∧ (cl == 0) = false ∧ ((cn.toNat : Int) != 0) = true) := by
                  rcases hr with h1 | ⟨h1, h2⟩ | ⟨h1, h2, h3⟩
                  · exact Or.inl (by omega)
                  · exact Or.inr (Or.inl ⟨by omega, by rw [beq_iff_eq]; exact h2⟩)
                  · exact Or.inr (Or.inr ⟨by omega, by rw [beq_eq_false_iff_ne]; omega, by rw [bne_iff_ne]; omega⟩)
                clear hr ht
                rcases hq with ⟨q1, q2, q3, q4⟩ | ⟨q1, q2, q3, q4⟩ <;> rcases hk1 with hk1 | ⟨hk1, hk2⟩ | ⟨hk1, hk2, hk3⟩
                all_goals (try (rw [q2] at hk2; cases hk2))
                all_goals
                  have q := HTW.out _ HB.out
                  have q0' := q.c0
                  have q1' := q.c1
                  have q2' := q.f0
                  have q3' := q.f1
                  obtain ⟨g, gb⟩ := HFIN.out _ 3 (k : Int) HB.out
                  have HG := Hid.mk' (And.intro g.c0 g.c1)
                  have HGB := Hid.mk' gb
                  clear q g gb
                  go_wp2_with fail
                  obtain ⟨g0, g1⟩ := HG.out
                  exact bodyPost_ret (v := .agg #[.int .i64 3, .int .i64 (k : Int)]) (by simp [results, Tryd.results19, go_sem, g0, g1]) rfl ⟨by rw [HF.out]; rfl, HGB.out⟩
            | false =>
              have HS3 : Hid (scanC l.length l 0 0 = scanC l.length (l.drop (k + 1)) (k + 1) (stepC m ⟨cb, cl, cn, ct⟩)) := by show _ = _; rw [HS2.out, scanC_ok hb]
              obtain ⟨y1, y2, y3, y4, y5⟩ := badC_no hb
              clear hb hc
              simp only at x0 x1 x2 x3 y1 y2 y3 y4 y5 hl4
              have z1 : ¬ cb < 0 := by omega
              have z2 : ¬ (m : Int) < cb := by omega
              have z3 : ¬ cl < 0 := by omega
              have hq : ((cb == 0) = true ∧ (cl == 0) = true ∧ ¬ 0 < cl ∧ ¬ 0 < cb) ∨ ((cb == 0) = false ∧ (cl == 0) = false ∧ 0 < cl ∧ 0 < cb) := by
                rcases y4 with ⟨h1, h2⟩ | ⟨h1, h2⟩
                · exact Or.inl ⟨by rw [beq_iff_eq]; exact h1, by rw [beq_iff_eq]; exact h2, by omega, by omega⟩
                · exact Or.inr ⟨by rw [beq_eq_false_iff_ne]; omega, by rw [beq_eq_false_iff_ne]; omega, h2, h1⟩
              rcases y5 with rfl | ⟨rfl, y6, y7, y8⟩
              · have HS4 : Hid (scanC l.length l 0 0 = scanC l.length (l.drop (k + 1)) (k + 1) (m + cl.toNat + 1)) := HS3.out
                have hcl : (m : Int) + cl + 1 = ((m + cl.toNat + 1 : Nat) : Int) := by omega
                have HCL := Hid.mk' hcl
                clear y4 hcl
                rcases hq with ⟨q1, q2, q3, q4⟩ | ⟨q1, q2, q3, q4⟩
                all_goals
                  go_wp2_with fail
                  exact ⟨⟨k + 1, m + cl.toNat + 1, h1, by go_num, by rw [HCL.out], by omega, HBA.out, HS4.out⟩, by simp [intOf]; omega⟩
              · have HS4 : Hid (scanC l.length l 0 0 = scanC l.length (l.drop (k + 1)) (k + 1) (m + cl.toNat)) := HS3.out
                have hcl : (m : Int) + cl = ((m + cl.toNat : Nat) : Int) := by omega
                have HCL := Hid.mk' hcl
                have hk1 : ¬ ((k : Int) + 1 < (l.length : Int)) := by omega
                have hcn : ((cn.toNat : Int) != 0) = false := by rw [y8]; rfl
                clear y4 hcl y8
                rcases hq with ⟨q1, q2, q3, q4⟩ | ⟨q1, q2, q3, q4⟩
                · rw [beq_iff_eq] at q2; omega
                · go_wp2_with fail
                  exact ⟨⟨k + 1, m + cl.toNat, h1, by go_num, by rw [HCL.out], by omega, HBA.out, HS4.out⟩, by simp [intOf]; omega⟩
          · obtain rfl : k = l.length := by omega
            have hkI : ¬ (l.length : Int) < (l.length : Int) := by omega
            have HS2 : Hid (scanC l.length l 0 0 = .inr m) := by show _ = _; rw [HS.out, List.drop_length]; rfl
            by_cases h5 : 4000 < m
            · have h5I : (4000 : Int) < (m : Int) := by omega
              have HF : Hid (cpE l = (2, -1)) := by show _ = _; rw [HC2.out, HS2.out]; simp only [if_pos h5]
              have q := HTW.out _ HB.out
              have q0' := q.c0
              have q1' := q.c1
              have q2' := q.f0
              have q3' := q.f1
              obtain ⟨g, gb⟩ := HFIN.out _ 2 (-1) HB.out
              have HG := Hid.mk' (And.intro g.c0 g.c1)
              have HGB := Hid.mk' gb
              clear q g gb
              go_wp2_with fail
              obtain ⟨g0, g1⟩ := HG.out
              exact bodyPost_ret (v := .agg #[.int .i64 2, .int .i64 (-1)]) (by simp [results, Tryd.results19, go_sem, g0, g1]) rfl ⟨by rw [HF.out]; rfl, HGB.out⟩
            · have h5I : ¬ (4000 : Int) < (m : Int) := by omega
              have HF : Hid (cpE l = (0, -1)) := by show _ = _; rw [HC2.out, HS2.out]; simp only [if_neg h5]
              have q := HTW.out _ HB.out
              have q0' := q.c0
              have q1' := q.c1
              have q2' := q.f0
              have q3' := q.f1
              obtain ⟨g, gb⟩ := HFIN.out _ 0 (-1) HB.out
              have HG := Hid.mk' (And.intro g.c0 g.c1)
              have HGB := Hid.mk' gb
              clear q g gb
              go_wp2_with fail
              obtain ⟨g0, g1⟩ := HG.out
              exact bodyPost_ret (v := .agg #[.int .i64 0, .int .i64 (-1)]) (by simp [results, Tryd.results19, go_sem, g0, g1]) rfl ⟨by rw [HF.out]; rfl, HGB.out⟩
end Go.Proofs.YtiocbnjdmceadaaDoor
