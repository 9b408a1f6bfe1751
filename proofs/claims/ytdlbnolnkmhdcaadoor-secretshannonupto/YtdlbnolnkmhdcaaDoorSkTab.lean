/- secret.Table. -/
import Derived.Test.YtdlbnolnkmhdcaaDoorSkPerf
import Derived.Test.YtdlbnolnkmhdcaaDoorTabP
namespace Go.Proofs.YtdlbnolnkmhdcaaDoor
open Go.RowKit

/-- A cell of the table: the message's weight times the weight of its keys. -/
def tbZ (n : Nat) (z : Nat → Int) (zs : Nat → Nat → Int) (y : Nat → Int) (m s : Nat) : Int := wayZ z zs m s n * y m
def tbErr (n : Nat) (z : Nat → Int) (R : Nat) (ns : Nat → Nat) (zs : Nat → Nat → Int) (k : Nat) (y : Nat → Int) : Nat := if ciErr n z R ns zs ≠ 0 then ciErr n z R ns zs else if weightsErr y k ≠ 0 then weightsErr y k else if k ≠ ns 0 then 3 else tabErr (ns 0) (fun _ => topN (ns 0) zs n) (tbZ n z zs y)
/-- Half way: the first m rows, and j numbers of the next one. -/
def tbH (n : Nat) (z : Nat → Int) (zs : Nat → Nat → Int) (y : Nat → Int) (m j i s : Nat) : Int := if i < m ∨ (i = m ∧ s < j) then tbZ n z zs y i s else wayZ z zs i s n
theorem tbH_start (n : Nat) (z : Nat → Int) (zs : Nat → Nat → Int) (y : Nat → Int) (i s : Nat) : tbH n z zs y 0 0 i s = wayZ z zs i s n := by unfold tbH; rw [if_neg (by omega)]
theorem tbH_row {n : Nat} {z : Nat → Int} {zs : Nat → Nat → Int} {y : Nat → Int} {m T i s : Nat} (hs : s < T) : tbH n z zs y (m + 1) 0 i s = tbH n z zs y m T i s := by
  unfold tbH
  by_cases h : i < m ∨ (i = m ∧ s < T)
  · rw [if_pos h, if_pos (by omega)]
  · rw [if_neg h, if_neg (by omega)]
theorem tbH_end {n : Nat} {z : Nat → Int} {zs : Nat → Nat → Int} {y : Nat → Int} {C i s : Nat} (hi : i < C) : tbH n z zs y C 0 i s = tbZ n z zs y i s := by unfold tbH; rw [if_pos (by omega)]
theorem tbH_next (n : Nat) (z : Nat → Int) (zs : Nat → Nat → Int) (y : Nat → Int) (m j i s : Nat) : tbH n z zs y m (j + 1) i s = if i = m ∧ s = j then tbZ n z zs y m j else tbH n z zs y m j i s := by
  unfold tbH
  by_cases h : i = m ∧ s = j
  · rw [if_pos h, if_pos (by omega), h.1, h.2]
  · rw [if_neg h]
    by_cases h2 : i < m ∨ (i = m ∧ s < j)
    · rw [if_pos h2, if_pos (by omega)]
    · rw [if_neg h2, if_neg (by omega)]
theorem tabErr_le (R : Nat) (ns : Nat → Nat) (zs : Nat → Nat → Int) : tabErr R ns zs ≤ 3 := by
  unfold tabErr listErr
  repeat (split; omega)
  omega
theorem tbErr_le (n : Nat) (z : Nat → Int) (R : Nat) (ns : Nat → Nat) (zs : Nat → Nat → Int) (k : Nat) (y : Nat → Int) : tbErr n z R ns zs k y ≤ 3 := by
  have h1 := ciErr_le n z R ns zs
  have h2 := weightsErr_le y k
  have h3 := tabErr_le (ns 0) (fun _ => topN (ns 0) zs n) (tbZ n z zs y)
  unfold tbErr
  split
  · exact h1
  · split
    · exact h2
    · split
      · omega
      · exact h3
theorem sumT_const (T : Nat) : ∀ R, sumT (fun _ => T) R = R * T
  | 0 => by simp [sumT]
  | R + 1 => by simp only [sumT, sumT_const T R]; rw [Nat.succ_mul]
set_option maxRecDepth 100000 in
set_option maxHeartbeats 8000000 in
theorem SkTable_any (a : Nat → Addr) (kv lv u : Value) (n : Nat) (z : Nat → Int) (R : Nat) (vs : Nat → Value) (ns : Nat → Nat) (zs : Nat → Nat → Int) (k : Nat) (y : Nat → Int) (w : World) (hE : Errs w a) (hk : NumsAt w kv n z) (hl : TabAt w lv R vs ns zs) (hu : NumsAt w u k y) (hn : n ≤ 1000000) (hR : R ≤ 1000000) (hns : ∀ i, i < R → ns i ≤ 1000000) (hkn : k ≤ 1000000) :
    Calls Tryd.prog 11 #[.agg #[kv, lv], u] w fun e w' => ∃ t', e = .returned (.tuple #[t', errV a (tbErr n z R ns zs k y)]) ∧ (tbErr n z R ns zs k y ≠ 0 → t' = .slice none 0 0) ∧ (tbErr n z R ns zs k y = 0 → ∃ vs', TabAt w' t' (ns 0) vs' (fun _ => topN (ns 0) zs n) (tbZ n z zs y)) ∧ Below w.heap.size w w' := by
  obtain ⟨ka, kc, rfl⟩ := hk.form
  obtain ⟨la, lc, rfl⟩ := hl.form
  obtain ⟨w1, hw1⟩ : ∃ w1, w1 = w.alloc (.cells #[.slice ka n kc, .slice la R lc] 36) := ⟨_, rfl⟩
  have hb1 : Below w.heap.size w w1 := by rw [hw1]; exact (Below.refl _ _).alloc (Nat.le_refl _) _
  have hc0 : w1.cell? ⟨w.heap.size, 0, none⟩ = some (.slice ka n kc) := by rw [hw1]; go_simp
  have hc1 : w1.cell? ⟨w.heap.size, 1, none⟩ = some (.slice la R lc) := by rw [hw1]; go_simp
  have HB1 := Hid.mk' hb1
  have HW1 := Hid.mk' hw1
  have HC : Hid (∀ W, Below w1.heap.size w1 W → W.cell? ⟨w.heap.size, 0, none⟩ = some (.slice ka n kc) ∧ W.cell? ⟨w.heap.size, 1, none⟩ = some (.slice la R lc)) := fun W hb => ⟨by rw [hb.cell (cell_lt hc0)]; exact hc0, by rw [hb.cell (cell_lt hc1)]; exact hc1⟩
  have hV := SkValid_any a _ _ n z R vs ns zs w1 (hE.below hb1) (hk.later hb1) (hl.later hb1) hn hR hns
  have HE := Hid.mk' (fun (W : World) (hb : Below w1.heap.size w1 W) => (hE.below hb1).below hb)
  have HK := Hid.mk' (fun (W : World) (hb : Below w1.heap.size w1 W) => (hk.later hb1).later hb)
  have HL := Hid.mk' (fun (W : World) (hb : Below w1.heap.size w1 W) => (hl.later hb1).later hb)
  have HU := Hid.mk' (fun (W : World) (hb : Below w1.heap.size w1 W) => (hu.later hb1).later hb)
  have HVW := Hid.mk' (fun (W : World) (hb : Below w1.heap.size w1 W) => Valid_weights a u k y W (HE.out W hb) (HU.out W hb) hkn)
  obtain ⟨ua, uc, rfl⟩ := hu.form
  clear hE hk hl hu hb1 hw1 hns hc0 hc1
  by_cases he : ciErr n z R ns zs ≠ 0
  · have HR : Hid (tbErr n z R ns zs k y = ciErr n z R ns zs) := by show _ = _; unfold tbErr; rw [if_pos he]
    rw [errV_pos a he] at hV
    have HX := Hid.mk' (errV_pos a he)
    have HNE := Hid.mk' he
    generalize ciErr n z R ns zs = q at *
    clear he
    go_enter Tryd.func11, Tryd.ntmps11
    go_wp2_with fail
    rw [← HW1.out]
    refine hV.mono ?_
    rintro e w2 ⟨rfl, hb2⟩
    have HB2 := Hid.mk' (below_chS HB1.out hb2)
    clear hb2 hV
    go_wp2_with fail
    go_ret2
    exact ⟨_, by rw [HR.out, HX.out]; rfl, fun _ => rfl, fun h => by rw [HR.out] at h; exact absurd h HNE.out, HB2.out⟩
  have he0 : ciErr n z R ns zs = 0 := by omega
  have hok := ciErr_ok he0
  rw [he0, errV_zero] at hV
  by_cases he2 : weightsErr y k ≠ 0
  · have HR : Hid (tbErr n z R ns zs k y = weightsErr y k) := by show _ = _; unfold tbErr; rw [if_neg he, if_pos he2]
    rw [errV_pos a he2] at HVW
    have HX := Hid.mk' (errV_pos a he2)
    have HNE := Hid.mk' he2
    generalize weightsErr y k = q at *
    clear he he0 he2 hok
    go_enter Tryd.func11, Tryd.ntmps11
    go_wp2_with fail
    rw [← HW1.out]
    refine hV.mono ?_
    rintro e w2 ⟨rfl, hb2⟩
    have HB2 := Hid.mk' hb2
    clear hb2 hV
    go_wp2_with fail
    refine (HVW.out w2 HB2.out).mono ?_
    rintro e w3 ⟨rfl, hw3⟩
    rw [hw3]
    clear hw3 w3
    go_wp2_with fail
    go_ret2
    exact ⟨_, by rw [HR.out, HX.out]; rfl, fun _ => rfl, fun h => by rw [HR.out] at h; exact absurd h HNE.out, below_chS HB1.out HB2.out⟩
  have he20 : weightsErr y k = 0 := by omega
  rw [he20, errV_zero] at HVW
  obtain ⟨b, o, rfl⟩ : ∃ b o, la = some ⟨b, o, none⟩ := by
    rcases HL.out w1 (Below.refl _ _) with ⟨_, _, _, h1⟩ | ⟨b, o, c, h1, _, h2⟩
    · have := hok.w.posN; have := hok.same; omega
    · simp only [Value.slice.injEq, true_and] at h1
      exact ⟨b, o, h1.1⟩
  have hR0 : 0 < R := by have := hok.w.posN; have := hok.same; omega
  obtain ⟨a0, c0, hv0⟩ : ∃ a0 c0, vs 0 = .slice a0 (ns 0) c0 := by
    rcases HL.out w1 (Below.refl _ _) with ⟨_, _, _, h1⟩ | ⟨b', o', c, h1, _, h2⟩
    · omega
    · exact (h2 0 hR0).2.form
  have HCZ : Hid (∀ W, Below w1.heap.size w1 W → W.cell? ⟨b, o, none⟩ = some (.slice a0 (ns 0) c0)) := fun W hb => by
    rcases HL.out W hb with ⟨_, _, _, h1⟩ | ⟨b', o', c, h1, _, h2⟩
    · omega
    · simp only [Value.slice.injEq, true_and, Option.some.injEq, Addr.mk.injEq] at h1
      obtain ⟨⟨rfl, rfl, -⟩, rfl⟩ := h1
      have := (h2 0 hR0).1
      rwa [Nat.add_zero, hv0] at this
  have hRI : (0 : Int) < (R : Int) := by omega
  by_cases hkC : k ≠ ns 0
  · have HR : Hid (tbErr n z R ns zs k y = 3) := by show _ = _; unfold tbErr; rw [if_neg he, if_neg he2, if_pos hkC]
    have hne : ((k : Int) != (ns 0 : Int)) = true := by rw [bne_iff_ne]; omega
    clear he he0 he2 he20 hok hkC hv0
    generalize ns 0 = C at *
    go_enter Tryd.func11, Tryd.ntmps11
    go_wp2_with fail
    rw [← HW1.out]
    refine hV.mono ?_
    rintro e w2 ⟨rfl, hb2⟩
    have HB2 := Hid.mk' hb2
    have c1 := (HC.out w2 hb2).2
    have cz := HCZ.out w2 hb2
    have cS := (HE.out w2 hb2).c2
    clear hb2 hV
    go_wp2_with fail
    refine (HVW.out w2 HB2.out).mono ?_
    rintro e w3 ⟨rfl, hw3⟩
    rw [hw3]
    clear hw3 w3
    go_wp2_with fail
    go_region
    all_goals
      go_wp2_with fail
      go_ret2
      exact ⟨_, by rw [HR.out, errV_three]; rfl, fun _ => rfl, (fun h => by rw [HR.out] at h; cases h), (below_chS HB1.out HB2.out).drew⟩
  have hkC' : k = ns 0 := by omega
  subst hkC'
  have HR : Hid (tbErr n z R ns zs (ns 0) y = tabErr (ns 0) (fun _ => topN (ns 0) zs n) (tbZ n z zs y)) := by show _ = _; unfold tbErr; rw [if_neg he, if_neg he2, if_neg hkC]
  have hne : ((ns 0 : Int) != (ns 0 : Int)) = false := by simp
  have HWO := Hid.mk' (fun (W : World) (hb : Below w1.heap.size w1 W) => waysOf_any _ _ n z R vs ns zs W (HK.out W hb) (HL.out W hb) hok)
  have h0 := hok.len0
  have hC16 : ns 0 ≤ 16 := rowB_short (hok.row 0 hok.w.posN)
  have hT16 := topN_le hok.row h0 n (Nat.le_refl _)
  have hT0 : 0 < topN (ns 0) zs n := Nat.lt_of_le_of_lt (Nat.zero_le _) (topN_at (i := 0) (m := 0) hok.w.posN h0)
  have HWL : Hid (∀ m s, 0 ≤ wayZ z zs m s n ∧ wayZ z zs m s n ≤ 4096) := fun m s => by
    have h1 := wayZ_le (zs := zs) (m := m) (s := s) hok.w.nn n (Nat.le_refl _)
    have h2 := hok.w.le
    exact ⟨h1.1, by omega⟩
  have hoky := (weightsErr_ok he20).2
  have HYL : Hid (∀ m, m < ns 0 → 0 ≤ y m ∧ y m ≤ 4096) := fun m hm => hoky.lt hm
  obtain ⟨ub, uo, rfl⟩ : ∃ ub uo, ua = some ⟨ub, uo, none⟩ := by
    rcases HU.out w1 (Below.refl _ _) with ⟨_, _, _, h1⟩ | ⟨b', o', c, h1, _, h2⟩
    · omega
    · simp only [Value.slice.injEq, true_and] at h1
      exact ⟨b', o', h1.1⟩
  have HUR : Hid (∀ W, Below w1.heap.size w1 W → RowAt W ub uo (ns 0) y) := fun W hb => by
    rcases HU.out W hb with ⟨_, _, _, h1⟩ | ⟨b', o', c, h1, _, h2⟩
    · omega
    · simp only [Value.slice.injEq, true_and, Option.some.injEq, Addr.mk.injEq] at h1
      obtain ⟨⟨rfl, rfl, -⟩, rfl⟩ := h1
      exact h2
  clear he he0 he2 he20 hok hkC hv0 hoky
  generalize hTe : topN (ns 0) zs n = T at *
  generalize ns 0 = C at *
  have HTB : Hid (∀ (W : World) (vs' : Nat → Value) (v : Value), Below w1.heap.size w1 W → TabAt W v C vs' (fun _ => T) (tbZ n z zs y) → Calls Tryd.prog 25 #[v] W fun e w' => e = .returned (errV a (tabErr C (fun _ => T) (tbZ n z zs y))) ∧ Below W.heap.size W w') := fun W vs' v hb ht => Table_any a v C vs' (fun _ => T) (tbZ n z zs y) W (HE.out W hb) ht (by omega) (by rw [sumT_const]; exact Nat.le_trans (Nat.mul_le_mul hC16 hT16) (by decide))
  have hCI : (C : Int) ≤ 16 := by omega
  have hTI : (T : Int) ≤ 16 := by omega
  have h0I : (0 : Int) < (C : Int) := by omega
  go_enter Tryd.func11, Tryd.ntmps11
  go_wp2_with fail
  rw [← HW1.out]
  refine hV.mono ?_
  rintro e w2 ⟨rfl, hb2⟩
  have HB2 := Hid.mk' hb2
  have d0 := (HC.out w2 hb2).1
  have d1 := (HC.out w2 hb2).2
  have cz := HCZ.out w2 hb2
  clear hb2 hV
  go_wp2_with fail
  refine (HVW.out w2 HB2.out).mono ?_
  rintro e w3 ⟨rfl, hw3⟩
  rw [hw3]
  clear hw3 w3
  go_wp2_with fail
  refine (HWO.out w2 HB2.out).mono ?_
  rintro e w4 ⟨g, rb, rfl, hG⟩
  have HG4 : Hid (GridB w2 w4 g C T C rb (fun i s => .int .i64 (tbH n z zs y 0 0 i s))) := hG.cast fun i s _ _ => by rw [tbH_start]
  clear hG d0 d1 cz
  go_wp2_with fail
  go_loopw [36] (fun t wr => ∃ m : Nat, m ≤ C ∧ t = .int .i64 m ∧ Hid (GridB w2 wr g C T C rb (fun i s => .int .i64 (tbH n z zs y m 0 i s)))) (fun t _ => C - (intOf t).toNat)
  case atStart => exact ⟨0, Nat.zero_le _, rfl, HG4⟩
  case round =>
    clear HG4
    obtain ⟨m, hm, rfl, HG⟩ := hrel
    rcases Nat.lt_or_ge m C with h1 | h1
    · have hmI : (m : Int) < (C : Int) := by omega
      have hm0 : (0 : Int) ≤ (m : Int) := by omega
      have hmd := HG.out.made m h1
      obtain ⟨wo, hwo⟩ : ∃ wo, wo = wr := ⟨_, rfl⟩
      rw [← hwo] at HG hmd ⊢
      clear hwo
      go_wp2_with fail
      clear hmd
      go_loopw [43] (fun t wx => ∃ j : Nat, j ≤ T ∧ t = .int .i64 j ∧ Hid (GridB w2 wx g C T C rb (fun i s => .int .i64 (tbH n z zs y m j i s)))) (fun t _ => T - (intOf t).toNat)
      case atStart => exact ⟨0, Nat.zero_le _, rfl, HG⟩
      case round =>
        clear HG
        obtain ⟨j, hj, rfl, HX⟩ := hrel
        rcases Nat.lt_or_ge j T with h2 | h2
        · have hjI : (j : Int) < (T : Int) := by omega
          have hj0 : (0 : Int) ≤ (j : Int) := by omega
          have hcell := (HX.out.rows m h1).row j h2
          have hfz := (HX.out.rows m h1).fz j h2
          have e1 : tbH n z zs y m j m j = wayZ z zs m j n := by unfold tbH; rw [if_neg (by omega)]
          rw [e1] at hcell
          have hcy := HUR.out wr (below_chS HB2.out HX.out.below) m h1
          have HN := Hid.mk' (HX.out.set (i := m) (k := j) h1 h2 (.int .i64 (wayZ z zs m j n * y m)) (f' := fun i s => .int .i64 (tbH n z zs y m (j + 1) i s)) (fun i s _ _ => by
            rw [tbH_next]
            by_cases e : i = m ∧ s = j
            · rw [if_pos e, if_pos e]; rfl
            · rw [if_neg e, if_neg e]))
          have hwl := HWL.out m j
          have hyl := HYL.out m h1
          obtain ⟨x1, hx1⟩ : ∃ x1 : Nat, wayZ z zs m j n = (x1 : Int) := ⟨_, (Int.toNat_of_nonneg hwl.1).symm⟩
          obtain ⟨x2, hx2⟩ : ∃ x2 : Nat, y m = (x2 : Int) := ⟨_, (Int.toNat_of_nonneg hyl.1).symm⟩
          rw [hx1] at hcell HN hwl
          rw [hx2] at hcy HN hyl
          have m1 : x1 * x2 ≤ 4096 * 4096 := Nat.mul_le_mul (by omega) (by omega)
          clear e1 hx1 hx2 HX
          go_wp2_with fail
          go_region
          all_goals
            go_wp2_with fail
            exact ⟨⟨j + 1, h2, by go_num, HN.out.drewN⟩, by simp [intOf]; omega⟩
        · obtain rfl : j = T := by omega
          go_wp2_with fail
          exact ⟨⟨m + 1, h1, by go_num, Hid.mk' (HX.out.cast fun i s _ hs => by rw [tbH_row hs])⟩, by simp [intOf]; omega⟩
    · obtain rfl : m = C := by omega
      have HG' : Hid (GridB w2 wr g m T m rb (fun i s => .int .i64 (tbZ n z zs y i s))) := HG.out.cast fun i s hi _ => by rw [tbH_end hi]
      have htab := HG'.out.tab h0 hT0
      have hbw := below_chS HB2.out HG'.out.below
      have HBW := Hid.mk' hbw
      have hTB := HTB.out wr _ _ hbw htab
      have HTA := Hid.mk' htab
      clear HG htab hbw
      by_cases hq : tabErr m (fun _ => T) (tbZ n z zs y) ≠ 0
      · rw [errV_pos a hq] at hTB
        have HX := Hid.mk' (errV_pos a hq)
        have HNE := Hid.mk' hq
        generalize tabErr m (fun _ => T) (tbZ n z zs y) = q at *
        clear hq
        go_wp2_with fail
        refine hTB.mono ?_
        rintro e w5 ⟨rfl, hb5⟩
        have HB5 := Hid.mk' (below_chS HBW.out hb5)
        clear hb5 hTB
        go_wp2_with fail
        go_ret2
        exact ⟨_, by rw [HR.out, HX.out]; rfl, fun _ => rfl, fun h => by rw [HR.out] at h; exact absurd h HNE.out, below_chS HB1.out HB5.out⟩
      · have hq0 : tabErr m (fun _ => T) (tbZ n z zs y) = 0 := by omega
        have HQ0 := Hid.mk' hq0
        rw [hq0, errV_zero] at hTB
        clear hq hq0
        go_wp2_with fail
        refine hTB.mono ?_
        rintro e w5 ⟨rfl, hb5⟩
        have HB5 := Hid.mk' (below_chS HBW.out hb5)
        have HT5 := Hid.mk' (HTA.out.later hb5)
        clear hb5 hTB
        go_wp2_with fail
        go_ret2
        exact ⟨_, by rw [HR.out, HQ0.out, errV_zero]; rfl, fun h => by rw [HR.out, HQ0.out] at h; exact absurd rfl h, fun _ => ⟨_, HT5.out⟩, below_chS HB1.out HB5.out⟩
end Go.Proofs.YtdlbnolnkmhdcaaDoor
