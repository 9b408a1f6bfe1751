/- The document's PhrasesFault. -/
import Derived.Test.YtiocbnjdmceadaaDoorTxD
import Derived.Test.YtiocbnjdmceadaaDoorUnF
namespace Go.Proofs.YtiocbnjdmceadaaDoor
open Go.RowKit

theorem Tryd.infoIn : (Tryd.prog.info? 3).map (fun i => (i.zero, i.size, i.bytes)) = some (some (.int .i64 0), 1, 8) := by kernel_rfl
/-- How long the texts are, in a row of numbers. -/
structure LongAt (w : World) (g n : Nat) (K : List (List UInt8)) : Prop where
  c : ∀ j, j < n → w.cell? ⟨g, j, none⟩ = some (.int .i64 ((K.getD j []).length : Nat))
  f : ∀ j, w.frozen? ⟨g, j, none⟩ = false
theorem LongAt.alloc {w : World} {g n : Nat} {K : List (List UInt8)} (h : LongAt w g n K) (hg : g < w.heap.size) (o : Obj) : LongAt (w.alloc o) g n K :=
  ⟨fun j hj => by rw [World.cell?_alloc_lt _ _ _ hg]; exact h.c j hj, fun j => by rw [World.frozen?_alloc_old _ _ _ (show g ≠ w.heap.size by omega)]; exact h.f j⟩
theorem LongAt.set {w : World} {g n : Nat} {K : List (List UInt8)} (h : LongAt w g n K) {k : Nat} (hk : K.length = k) (hn : k < n) (t : List UInt8) : LongAt (w.setCell ⟨g, k, none⟩ (.int .i64 (t.length : Int))) g n (K ++ [t]) := by
  refine ⟨fun j hj => ?_, fun j => by rw [World.frozen?_setCell]; exact h.f j⟩
  by_cases e : j = k
  · subst e
    rw [World.cell?_setCell_same _ _ _ (h.c _ hj), List.getD_eq_getElem?_getD, List.getElem?_append_right (by omega), hk, Nat.sub_self]
    rfl
  · rw [World.cell?_setCell_other _ _ _ _ (fun q => e (by cases q; rfl)), h.c j hj, List.getD_eq_getElem?_getD, List.getD_eq_getElem?_getD]
    rcases Nat.lt_or_ge j K.length with h' | h'
    · rw [List.getElem?_append_left h']
    · rw [List.getElem?_eq_none h', List.getElem?_eq_none (by simp; omega)]
theorem LongAt.again {w : World} {g n : Nat} {K : List (List UInt8)} {s : List UInt8} (h : LongAt w g n (K ++ [s])) {k : Nat} (hk : K.length = k) (hn : k < n) (t : List UInt8) : LongAt (w.setCell ⟨g, k, none⟩ (.int .i64 (t.length : Int))) g n (K ++ [t]) := by
  refine ⟨fun j hj => ?_, fun j => by rw [World.frozen?_setCell]; exact h.f j⟩
  by_cases e : j = k
  · subst e
    rw [World.cell?_setCell_same _ _ _ (h.c _ hj), List.getD_eq_getElem?_getD, List.getElem?_append_right (by omega), hk, Nat.sub_self]
    rfl
  · rw [World.cell?_setCell_other _ _ _ _ (fun q => e (by cases q; rfl)), h.c j hj, List.getD_eq_getElem?_getD, List.getD_eq_getElem?_getD]
    rcases Nat.lt_or_ge j K.length with h' | h'
    · rw [List.getElem?_append_left h', List.getElem?_append_left h']
    · rw [List.getElem?_eq_none (by simp; omega), List.getElem?_eq_none (by simp; omega)]

theorem grow_short {K : List (List UInt8)} {t : List UInt8} (h : ∀ (i : Nat) (a : List UInt8), K[i]? = some a → a.length ≤ i) (ht : t.length ≤ K.length) : ∀ (i : Nat) (a : List UInt8), (K ++ [t])[i]? = some a → a.length ≤ i := fun i a ha => by
  rcases Nat.lt_or_ge i K.length with h' | h'
  · rw [List.getElem?_append_left h'] at ha; exact h i a ha
  · rw [List.getElem?_append_right h'] at ha
    rcases Nat.eq_or_lt_of_le h' with e | e
    · rw [← e, Nat.sub_self] at ha
      obtain rfl : t = a := by simpa using ha
      omega
    · rw [List.getElem?_eq_none (by simp; omega)] at ha; cases ha
set_option maxRecDepth 100000 in
set_option maxHeartbeats 8000000 in
theorem PhrasesFault_any (v : Value) (l : List PhI) (w : World) (h : PhiAt w v l) (hn : l.length ≤ 1000000) :
    Calls Tryd.prog 12 #[v] w fun e w' => e = .returned (.agg #[.int .i64 ((phE l).1 : Int), .int .i64 (phE l).2]) ∧ Below w.heap.size w w' := by
  obtain ⟨i, hi, hi2⟩ := Option.map_eq_some_iff.1 Tryd.infoIn
  obtain ⟨hz, hsz, hby⟩ : i.zero = some (.int .i64 0) ∧ i.size = 1 ∧ i.bytes = 8 := by simpa using hi2
  have HINF := Hid.mk' (And.intro hi (And.intro hz (And.intro hsz hby)))
  clear hi hi2 hz hsz hby
  obtain ⟨ad, cap, rfl⟩ := h.form
  obtain ⟨W, hW⟩ : ∃ W, W = w.alloc (.cells #[.int .i64 0, .int .i64 0] 36) := ⟨_, rfl⟩
  have hbW : Below w.heap.size w W := by rw [hW]; exact (Below.refl _ _).alloc (Nat.le_refl _) _
  have HT : Hid (Two2 W w.heap.size 0 0) := by rw [hW]; exact Two2.fresh _ _ _ _
  have HL := Hid.mk' (fun (V : World) (hb : Below W.heap.size W V) => h.later (below_chain hbW hb))
  have HTW := Hid.mk' (fun (V : World) (hb : Below W.heap.size W V) => HT.out.later hb)
  have HFIN : Hid (∀ (V : World) (x y : Int), Below W.heap.size W V → Two2 ((V.setCell ⟨w.heap.size, 0, none⟩ (.int .i64 x)).setCell ⟨w.heap.size, 1, none⟩ (.int .i64 y)) w.heap.size x y ∧ Below w.heap.size w ((V.setCell ⟨w.heap.size, 0, none⟩ (.int .i64 x)).setCell ⟨w.heap.size, 1, none⟩ (.int .i64 y))) := fun V x y hb => ⟨(HT.out.later hb).set x y, ((below_chain hbW hb).setCell (Nat.le_refl _) _).setCell (Nat.le_refl _) _⟩
  clear h hbW HT
  go_enter Tryd.func12, Tryd.ntmps12
  by_cases h4 : 4000 < l.length
  · have h4I : (4000 : Int) < (l.length : Int) := by omega
    have HC : Hid (phE l = (2, -1)) := by show _ = _; unfold phE; rw [if_pos h4]
    go_wp2_with fail
    exact bodyPost_ret (v := .agg #[.int .i64 2, .int .i64 (-1)]) (by simp [results, Tryd.results12, go_sem]) rfl ⟨by rw [HC.out]; rfl, (Below.refl _ _).alloc (Nat.le_refl _) _⟩
  · have h4I : ¬ (4000 : Int) < (l.length : Int) := by omega
    have HC : Hid (phE l = match scanP l.length l 0 with | some i => (3, (i : Int)) | none => if 4000 < (phT l).length then (2, -1) else (0, -1)) := by show _ = _; unfold phE; rw [if_neg h4]; rfl
    have HW := Hid.mk' hW
    have HSZ : Hid (W.heap.size = w.heap.size + 1) := by rw [hW]; show _ = _; simp
    clear hW
    go_wp2_with (at_make; (rw [← HW.out]); go_must (refine wpList_make_full _ rfl _ _ _ rfl W.heap.size 3 i _ 1 Tryd.underlying61 HINF.out.1 HINF.out.2.1 HINF.out.2.2.1 .i64 .i64 _ _ (l.length + 1) rfl rfl (by simp) (by simp) (by rw [HINF.out.2.2.2]; omega) (by unfold maxLen; omega) (Nat.le_refl _) ?_; intro w2 hr2 hg2; have HR2 := Hid.mk' hr2; have HG2 := Hid.mk' hg2; clear hr2 hg2))
    have HLG : Hid (LongAt w2 W.heap.size (l.length + 1) [[]]) := ⟨fun j hj => by
      rw [HR2.out.cellAt j (by omega)]
      have e : (([[]] : List (List UInt8)).getD j []).length = 0 := by rcases j with _ | j <;> simp
      rw [e]
      simp [madeCells, hj, Nat.mod_one, Value.cells], fun j => HR2.out.frozenAt j⟩
    have HB2 : Hid (Below W.heap.size W w2) := (Below.refl _ _).grown HG2.out (Nat.le_refl _) (fun k e => by cases e)
    have HGL : Hid (W.heap.size < w2.heap.size) := (HR2.out.lt _ rfl).2
    clear HR2 HG2
    go_loopw [4, 5] (fun s t wr => ∃ (k : Nat) (K : List (List UInt8)) (out : List UInt8), k ≤ l.length ∧ t = .int .i64 (k : Int) ∧ s = .int .i64 (out.length : Int) ∧ out.length ≤ k * 4001 ∧ Hid (K.length = k + 1) ∧ Hid (∀ (i : Nat) (a : List UInt8), K[i]? = some a → a.length ≤ i) ∧ Hid (LongAt wr W.heap.size (l.length + 1) K) ∧ Hid (Below W.heap.size W wr) ∧ Hid (W.heap.size < wr.heap.size) ∧ Hid (scanP l.length l 0 = scanP l.length (l.drop k) k) ∧ Hid (runP (l.drop k) (K, out) = phT l)) (fun _ t _ => l.length - (intOf t).toNat)
    case atStart => exact ⟨0, [[]], [], Nat.zero_le _, rfl, rfl, Nat.zero_le _, rfl, fun i a h => by (rcases i with _ | i <;> simp at h; subst h; simp), HLG.out, HB2.out, HGL.out, rfl, rfl⟩
    case round =>
      clear HLG HB2 HGL
      obtain ⟨k, K, out, hk, rfl, rfl, hout, HKL, HKS, HLG, HB, HGL, HS, HF⟩ := hrel
      have hle := HB.out.size
      rcases Nat.lt_or_ge k l.length with h1 | h1
      · obtain ⟨c, hc⟩ : ∃ c, l[k]? = some c := ⟨_, List.getElem?_eq_getElem h1⟩
        obtain ⟨b, o, rfl, x0, x1, x2⟩ := (HL.out wr HB.out).at hc
        have hkI : (k : Int) < (l.length : Int) := by omega
        have hk0 : (0 : Int) ≤ (k : Int) := by omega
        have HS2 : Hid (scanP l.length l 0 = scanP l.length (c :: l.drop (k + 1)) k) := by show _ = _; rw [HS.out, dropP hc]
        have HFX : Hid (runP (l.drop (k + 1)) (K ++ [txtP K c], out ++ txtP K c) = phT l) := by show _ = _; rw [← HF.out, dropP hc]; rfl
        obtain ⟨co, cn, ct⟩ := c
        have HBX : Hid (Below W.heap.size W (wr.alloc (.cells #[.int .i64 co, .int .u8 (cn.toNat : Int), .bool ct] 33))) := HB.out.alloc hle _
        cases hb : badP l.length k ⟨co, cn, ct⟩ with
        | true =>
          have HF0 : Hid (phE l = (3, (k : Int))) := by show _ = _; rw [HC.out, HS2.out, scanP_bad hb]
          have hy := badP_yes hb
          clear hb hc
          simp only at x0 x1 x2 hy
          rcases hy with hy | ⟨hy, hz⟩ | ⟨hy, hz, hs, hr⟩
          · have q := HTW.out _ HBX.out
            have q0' := q.c0
            have q1' := q.c1
            have q2' := q.f0
            have q3' := q.f1
            obtain ⟨g, gb⟩ := HFIN.out _ 3 (k : Int) HBX.out
            have HG := Hid.mk' (And.intro g.c0 g.c1)
            have HGB := Hid.mk' gb
            clear q g gb
            go_wp2_with fail
            obtain ⟨g0, g1⟩ := HG.out
            exact bodyPost_ret (v := .agg #[.int .i64 3, .int .i64 (k : Int)]) (by simp [results, Tryd.results12, go_sem, g0, g1]) rfl ⟨by rw [HF0.out]; rfl, HGB.out⟩
          · have q := HTW.out _ HBX.out
            have q0' := q.c0
            have q1' := q.c1
            have q2' := q.f0
            have q3' := q.f1
            obtain ⟨g, gb⟩ := HFIN.out _ 3 (k : Int) HBX.out
            have HG := Hid.mk' (And.intro g.c0 g.c1)
            have HGB := Hid.mk' gb
            clear q g gb
            go_wp2_with fail
            obtain ⟨g0, g1⟩ := HG.out
            exact bodyPost_ret (v := .agg #[.int .i64 3, .int .i64 (k : Int)]) (by simp [results, Tryd.results12, go_sem, g0, g1]) rfl ⟨by rw [HF0.out]; rfl, HGB.out⟩
          · subst hs
            have hk1 : ((k : Int) + 1 < (l.length : Int)) ∨ (¬ ((k : Int) + 1 < (l.length : Int)) ∧ (co == 0) = true) ∨ (¬ ((k : Int) + 1 < (l.length : Int)) ∧ (co == 0) = false ∧ ((cn.toNat : Int) != 0) = true) := by
              rcases hr with h1 | ⟨h1, h2⟩ | ⟨h1, h2, h3⟩
              · exact Or.inl (by omega)
              · exact Or.inr (Or.inl ⟨by omega, by rw [beq_iff_eq]; exact h2⟩)
              · exact Or.inr (Or.inr ⟨by omega, by rw [beq_eq_false_iff_ne]; omega, by rw [bne_iff_ne]; omega⟩)
            clear hr
            rcases hk1 with hk1 | ⟨hk1, hk2⟩ | ⟨hk1, hk2, hk3⟩
            all_goals
              have q := HTW.out _ HBX.out
              have q0' := q.c0
              have q1' := q.c1
              have q2' := q.f0
              have q3' := q.f1
              obtain ⟨g, gb⟩ := HFIN.out _ 3 (k : Int) HBX.out
              have HG := Hid.mk' (And.intro g.c0 g.c1)
              have HGB := Hid.mk' gb
              clear q g gb
              go_wp2_with fail
              obtain ⟨g0, g1⟩ := HG.out
              exact bodyPost_ret (v := .agg #[.int .i64 3, .int .i64 (k : Int)]) (by simp [results, Tryd.results12, go_sem, g0, g1]) rfl ⟨by rw [HF0.out]; rfl, HGB.out⟩
        | false =>
          have HS3 : Hid (scanP l.length l 0 = scanP l.length (l.drop (k + 1)) (k + 1)) := by show _ = _; rw [HS2.out, scanP_ok hb]
          obtain ⟨y1, y2, y3⟩ := badP_no hb
          clear hb hc
          simp only at x0 x1 x2 y1 y2 y3
          obtain ⟨f, rfl⟩ : ∃ f : Nat, co = (f : Int) := ⟨co.toNat, by omega⟩
          have hfk : f ≤ k := by omega
          have HTX : Hid (txtP K ⟨(f : Int), cn, ct⟩ = if ct = true then K.getD f [] else K.getD f [] ++ [cn]) := by show txtP K _ = _; unfold txtP; rw [Int.toNat_natCast]
          have hKf : K[f]? = some (K.getD f []) := by rw [List.getD_eq_getElem?_getD, List.getElem?_eq_getElem (by rw [HKL.out]; omega)]; rfl
          have htl := HKS.out _ _ hKf
          have u0 := HLG.out.c f (by omega)
          have u1 := HLG.out.c (k + 1) (by omega)
          have u2 := HLG.out.f (k + 1)
          clear hKf
          generalize K.getD f [] = t0 at *
          generalize (K.getD (k + 1) []).length = z9 at *
          have z1 : ¬ (f : Int) < 0 := by omega
          have z2 : ¬ (k : Int) < (f : Int) := by omega
          have hf1 : (f : Int) < (l.length : Int) + 1 := by omega
          have hf0 : (0 : Int) ≤ (f : Int) := by omega
          have hk1' : (k : Int) + 1 < (l.length : Int) + 1 := by omega
          have hne : ¬ f = k + 1 := by omega
          have hgl := HGL.out
          have htk : t0.length ≤ 4000 := by omega
          have hou : out.length ≤ 16004000 := by omega
          have HLA := Hid.mk' (HLG.out.alloc hgl (.cells #[.int .i64 (f : Int), .int .u8 (cn.toNat : Int), .bool ct] 33))
          rcases y3 with rfl | ⟨rfl, y6, y7, y8⟩
          · have HTX : Hid (txtP K ⟨(f : Int), cn, false⟩ = t0 ++ [cn]) := HTX.out
            rw [HTX.out] at HFX
            have hl1 : (t0 ++ [cn]).length = t0.length + 1 := by simp
            have hl2 : ((t0 ++ [cn]).length : Int) = (t0.length : Int) + 1 := by rw [hl1]; rfl
            have hN := HLG.out.set HKL.out (by omega) (t0 ++ [cn])
            rw [hl2] at hN
            have HN := Hid.mk' (hN.alloc (show W.heap.size < _ by simp; omega) (.cells #[.int .i64 (f : Int), .int .u8 (cn.toNat : Int), .bool false] 33))
            have HBN : Hid (Below W.heap.size W ((wr.setCell ⟨W.heap.size, k + 1, none⟩ (.int .i64 ((t0.length : Int) + 1))).alloc (.cells #[.int .i64 (f : Int), .int .u8 (cn.toNat : Int), .bool false] 33))) := (HB.out.setCell (Nat.le_refl _) _).alloc (by simp; omega) _
            have HL12 := Hid.mk' (And.intro hl1 hl2)
            clear hl1 hl2 hN
            go_wp2_with fail
            exact ⟨⟨k + 1, K ++ [t0 ++ [cn]], out ++ (t0 ++ [cn]), h1, by go_num, by rw [List.length_append, HL12.out.1]; go_num, by rw [List.length_append, HL12.out.1]; omega, by show _ = _; rw [List.length_append, HKL.out]; rfl, grow_short HKS.out (by rw [HKL.out, HL12.out.1]; omega), HN.out, HBN.out, by show _ < _; simp; omega, HS3.out, HFX.out⟩, by simp [intOf]; omega⟩
          · have hk1 : ¬ ((k : Int) + 1 < (l.length : Int)) := by omega
            have hcn : ((cn.toNat : Int) != 0) = false := by rw [y8]; rfl
            have hco : ((f : Int) == 0) = false := by rw [beq_eq_false_iff_ne]; omega
            clear y8
            have HTX : Hid (txtP K ⟨(f : Int), cn, true⟩ = t0) := HTX.out
            rw [HTX.out] at HFX
            have hl1 : (t0 ++ [cn]).length = t0.length + 1 := by simp
            have hl2 : ((t0 ++ [cn]).length : Int) = (t0.length : Int) + 1 := by rw [hl1]; rfl
            have hN := HLG.out.set HKL.out (by omega) (t0 ++ [cn])
            rw [hl2] at hN
            have hN2 := hN.again HKL.out (by omega) t0
            have HN := Hid.mk' (hN2.alloc (show W.heap.size < _ by simp; omega) (.cells #[.int .i64 (f : Int), .int .u8 (cn.toNat : Int), .bool true] 33))
            have HBN : Hid (Below W.heap.size W (((wr.setCell ⟨W.heap.size, k + 1, none⟩ (.int .i64 ((t0.length : Int) + 1))).setCell ⟨W.heap.size, k + 1, none⟩ (.int .i64 (t0.length : Int))).alloc (.cells #[.int .i64 (f : Int), .int .u8 (cn.toNat : Int), .bool true] 33))) := ((HB.out.setCell (Nat.le_refl _) _).setCell (Nat.le_refl _) _).alloc (by simp; omega) _
            clear hl1 hl2 hN hN2
            go_wp2_with fail
            exact ⟨⟨k + 1, K ++ [t0], out ++ t0, h1, by go_num, by rw [List.length_append]; go_num, by rw [List.length_append]; omega, by show _ = _; rw [List.length_append, HKL.out]; rfl, grow_short HKS.out (by rw [HKL.out]; omega), HN.out, HBN.out, by show _ < _; simp; omega, HS3.out, HFX.out⟩, by simp [intOf]; omega⟩
      · obtain rfl : k = l.length := by omega
        have hkI : ¬ (l.length : Int) < (l.length : Int) := by omega
        have HSN : Hid (scanP l.length l 0 = none) := by show _ = _; rw [HS.out, List.drop_length]; rfl
        have HE : Hid (out = phT l) := by have := HF.out; rw [List.drop_length] at this; exact this
        have HBX := HB
        by_cases h5 : 4000 < out.length
        · have h5I : (4000 : Int) < (out.length : Int) := by omega
          have HF0 : Hid (phE l = (2, -1)) := by show _ = _; rw [HC.out, HSN.out, ← HE.out]; simp only [if_pos h5]
          have q := HTW.out _ HBX.out
          have q0' := q.c0
          have q1' := q.c1
          have q2' := q.f0
          have q3' := q.f1
          obtain ⟨g, gb⟩ := HFIN.out _ 2 (-1) HBX.out
          have HG := Hid.mk' (And.intro g.c0 g.c1)
          have HGB := Hid.mk' gb
          clear q g gb
          go_wp2_with fail
          obtain ⟨g0, g1⟩ := HG.out
          exact bodyPost_ret (v := .agg #[.int .i64 2, .int .i64 (-1)]) (by simp [results, Tryd.results12, go_sem, g0, g1]) rfl ⟨by rw [HF0.out]; rfl, HGB.out⟩
        · have h5I : ¬ (4000 : Int) < (out.length : Int) := by omega
          have HF0 : Hid (phE l = (0, -1)) := by show _ = _; rw [HC.out, HSN.out, ← HE.out]; simp only [if_neg h5]
          have q := HTW.out _ HBX.out
          have q0' := q.c0
          have q1' := q.c1
          have q2' := q.f0
          have q3' := q.f1
          obtain ⟨g, gb⟩ := HFIN.out _ 0 (-1) HBX.out
          have HG := Hid.mk' (And.intro g.c0 g.c1)
          have HGB := Hid.mk' gb
          clear q g gb
          go_wp2_with fail
          obtain ⟨g0, g1⟩ := HG.out
          exact bodyPost_ret (v := .agg #[.int .i64 0, .int .i64 (-1)]) (by simp [results, Tryd.results12, go_sem, g0, g1]) rfl ⟨by rw [HF0.out]; rfl, HGB.out⟩
end Go.Proofs.YtiocbnjdmceadaaDoor
