/- ising.setsByOdd: a table of counts, bond by bond. -/
import Derived.Test.YtoghnbcjkgookabDoorIsSt
namespace Go.Proofs.YtoghnbcjkgookabDoor
open Go.RowKit

theorem Tryd.infoIntRow : (Tryd.prog.info? 30).map (fun i => (i.zero, i.size, i.bytes)) = some (some (.slice none 0 0), 1, 24) := by kernel_rfl
theorem GridB.base {w w1 wr : World} {g n C m : Nat} {rb : Nat → Nat} {f : Nat → Nat → Value} (h : GridB w1 wr g n C m rb f) (hb : Below w.heap.size w w1) : GridB w wr g n C m rb f :=
  ⟨below_chain hb h.below, Nat.le_trans hb.size h.hg, h.outer, h.made, h.ofz, fun i hi => ⟨Nat.le_trans hb.size (h.rge i hi).1, (h.rge i hi).2.1, (h.rge i hi).2.2⟩, h.inj, h.rows⟩
theorem GridB.cast {w wr : World} {g n C m : Nat} {rb : Nat → Nat} {f f' : Nat → Nat → Value} (h : GridB w wr g n C m rb f) (hf : ∀ i k, i < m → k < C → f' i k = f i k) : GridB w wr g n C m rb f' :=
  ⟨h.below, h.hg, h.outer, h.made, h.ofz, h.rge, h.inj, fun i hi => ⟨fun k hk => by rw [hf i k hi hk]; exact (h.rows i hi).row k hk, (h.rows i hi).fz⟩⟩
theorem made_lt {w : World} {b g n : Nat} {t : TypeId} {xs : List Value} (h : w.ownsRow b t 1 (.slice (some ⟨g, 0, none⟩) n n) n xs) : g < w.heap.size := by
  rcases h.2 with ⟨hx, _⟩ | ⟨g', cap', cur, hv, _, hh, _⟩
  · cases hx
  · obtain ⟨rfl, _⟩ : g = g' ∧ _ := by simpa using hv
    exact heap_lt hh

/-- The table while the bond at i is put in, down to row K. -/
def mixE (p q : Nat → Nat) (i K k o : Nat) : Nat := if K < k then evC p q (i + 1) k o else evC p q i k o
/-- The row K + 1 while it takes what lies in the row K, up to j. -/
def rowE (p q : Nat → Nat) (i K j k o : Nat) : Nat := if k = K + 1 then evC p q i k o + (if o ^^^ endB p q i < j then evC p q i K (o ^^^ endB p q i) else 0) else mixE p q i (K + 1) k o
theorem mixE_start (p q : Nat → Nat) (i k o : Nat) : mixE p q i (i + 1) k o = evC p q i k o := by
  unfold mixE
  split
  · rw [evC_many _ _ _ _ _ (by omega), evC_many _ _ _ _ _ (by omega)]
  · rfl
theorem mixE_end (p q : Nat → Nat) (i k o : Nat) : mixE p q i 0 k o = evC p q (i + 1) k o := by
  unfold mixE
  split
  · rfl
  · obtain rfl : k = 0 := by omega
    exact (evC_none _ _ _ _).symm
theorem rowE_start (p q : Nat → Nat) (i K k o : Nat) : rowE p q i K 0 k o = mixE p q i (K + 1) k o := by
  unfold rowE
  split
  · rename_i h
    rw [if_neg (Nat.not_lt_zero _), Nat.add_zero, mixE, if_neg (by omega)]
  · rfl
theorem rowE_end {p q : Nat → Nat} {i n : Nat} (he : endB p q i < 2 ^ n) (K k o : Nat) (ho : o < 2 ^ n) : rowE p q i K (2 ^ n) k o = mixE p q i K k o := by
  unfold rowE
  split
  · rename_i h
    subst h
    rw [if_pos (Nat.xor_lt_two_pow ho he), mixE, if_pos (by omega), evC_more]
  · rename_i h
    unfold mixE
    by_cases h1 : K + 1 < k
    · rw [if_pos h1, if_pos (by omega)]
    · rw [if_neg h1, if_neg (by omega)]
theorem evC_small (p q : Nat → Nat) (k o : Nat) {i : Nat} (hi : i ≤ 30) : evC p q i k o ≤ 1073741824 := Nat.le_trans (evC_le _ _ _ _ _) (Nat.pow_le_pow_right (n := 2) (by decide) hi)
theorem xor_self_cancel (o e : Nat) : o ^^^ e ^^^ e = o := by rw [Nat.xor_assoc, Nat.xor_self, Nat.xor_zero]
/-- One step of the row. -/
theorem rowE_step (p q : Nat → Nat) (i K j k o : Nat) : rowE p q i K (j + 1) k o = if k = K + 1 ∧ o = j ^^^ endB p q i then evC p q i (K + 1) (j ^^^ endB p q i) + evC p q i K j else rowE p q i K j k o := by
  unfold rowE
  by_cases h1 : k = K + 1
  · subst h1
    simp only [↓reduceIte, true_and]
    by_cases h2 : o = j ^^^ endB p q i
    · subst h2
      simp only [↓reduceIte, xor_self_cancel]
      rw [if_pos (Nat.lt_succ_self j)]
    · rw [if_neg h2]
      have h3 : o ^^^ endB p q i ≠ j := fun e => h2 (by rw [← e, xor_self_cancel])
      by_cases h4 : o ^^^ endB p q i < j
      · rw [if_pos h4, if_pos (show o ^^^ endB p q i < j + 1 by omega)]
      · rw [if_neg h4, if_neg (show ¬ o ^^^ endB p q i < j + 1 by omega)]
  · rw [if_neg h1, if_neg h1, if_neg (fun h : k = K + 1 ∧ o = j ^^^ endB p q i => h1 h.1)]
theorem rowE_here (p q : Nat → Nat) (i K j : Nat) : rowE p q i K j (K + 1) (j ^^^ endB p q i) = evC p q i (K + 1) (j ^^^ endB p q i) := by
  unfold rowE
  rw [if_pos rfl, xor_self_cancel, if_neg (Nat.lt_irrefl _), Nat.add_zero]
theorem rowE_ahead (p q : Nat → Nat) (i K j o : Nat) : rowE p q i K j K o = evC p q i K o := by
  unfold rowE mixE
  rw [if_neg (by omega), if_neg (by omega)]

set_option maxRecDepth 100000 in
set_option maxHeartbeats 8000000 in
theorem setsByOdd_any (n m : Nat) (ev : Value) (p q : Nat → Nat) (w : World) (hG : EdAt w ev m (fun i => (p i : Int)) (fun i => (q i : Int))) (hn : n ≤ 14) (hm : m ≤ 30) (hpq : ∀ i, i < m → p i < n ∧ q i < n) :
    Calls Tryd.prog 17 #[.agg #[.int .i64 n, ev]] w fun e w' => ∃ g rb, e = .returned (.slice (some ⟨g, 0, none⟩) (m + 1) (m + 1)) ∧ GridB w w' g (m + 1) (2 ^ n) (m + 1) rb (fun k o => .int .i64 ((evC p q m k o : Nat) : Int)) := by
  obtain ⟨i0, hi, hz0, hz1, hz2⟩ := info_parts Tryd.infoInt
  have HINI : Hid (Tryd.prog.info? 3 = some i0 ∧ i0.zero = some (.int .i64 0) ∧ i0.size = 1 ∧ i0.bytes = 8) := ⟨hi, hz0, hz1, hz2⟩
  clear hi hz0 hz1 hz2
  obtain ⟨i1, hi, hz0, hz1, hz2⟩ := info_parts Tryd.infoIntRow
  have HINF : Hid (Tryd.prog.info? 30 = some i1 ∧ i1.zero = some (.slice none 0 0) ∧ i1.size = 1 ∧ i1.bytes = 24) := ⟨hi, hz0, hz1, hz2⟩
  clear hi hz0 hz1 hz2
  obtain ⟨ad, cap, rfl, -⟩ := id hG
  obtain ⟨w1, hw1⟩ : ∃ w1, w1 = w.alloc (.cells #[.int .i64 n, .slice ad m cap] 25) := ⟨_, rfl⟩
  have hb1 : Below w.heap.size w w1 := by rw [hw1]; exact (Below.refl _ _).alloc (Nat.le_refl _) _
  have hc0 : w1.cell? ⟨w.heap.size, 0, none⟩ = some (.int .i64 n) := by rw [hw1]; go_simp
  have hc1 : w1.cell? ⟨w.heap.size, 1, none⟩ = some (.slice ad m cap) := by rw [hw1]; go_simp
  have HC : Hid (∀ W, Below w1.heap.size w1 W → W.cell? ⟨w.heap.size, 0, none⟩ = some (.int .i64 n) ∧ W.cell? ⟨w.heap.size, 1, none⟩ = some (.slice ad m cap)) := fun W hb => ⟨by rw [hb.cell (cell_lt hc0)]; exact hc0, by rw [hb.cell (cell_lt hc1)]; exact hc1⟩
  have HG3 : Hid (∀ W, Below w1.heap.size w1 W → EdAt W (.slice ad m cap) m (fun i => (p i : Int)) (fun i => (q i : Int))) := fun W hb => (hG.later hb1).later hb
  have HW1 := Hid.mk' hw1
  have HB1 := Hid.mk' hb1
  have HPQ := Hid.mk' hpq
  have hnI : (n : Int) ≤ 14 := by omega
  have hn0 : (0 : Int) ≤ (n : Int) := by omega
  have hmI : (m : Int) ≤ 30 := by omega
  have hm0 : (0 : Int) ≤ (m : Int) := by omega
  have HT : Hid (2 ^ n ≤ 16384) := Nat.pow_le_pow_right (n := 2) (by decide) hn
  have HTP : Hid (1 ≤ 2 ^ n) := Nat.one_le_two_pow
  obtain ⟨T, hT2⟩ : ∃ T : Nat, T = 2 ^ n := ⟨_, rfl⟩
  have hsh : IntKind.i64.wrap (2 ^ n : Int) = (T : Int) := by rw [shl_wrap n (by omega), hT2]; simp
  have HT2 := Hid.mk' hT2
  have hT3 : T ≤ 16384 := by rw [hT2]; exact HT.out
  have hT1 : 1 ≤ T := by rw [hT2]; exact HTP.out
  clear hG hpq hT2 hb1 hw1
  go_enter Tryd.func17, Tryd.ntmps17
  go_upto_region 1 with fail
  rw [← HW1.out]
  go_wp2_with (at_make; go_must (refine wpList_make_full _ rfl _ _ _ rfl w1.heap.size 30 i1 _ 1 Tryd.underlying41 HINF.out.1 HINF.out.2.1 HINF.out.2.2.1 .i64 .i64 _ _ (m + 1) rfl rfl (by go_num) (by go_num) (by rw [HINF.out.2.2.2]; omega) (by unfold maxLen; omega) (Nat.le_refl _) ?_; intro w2 hown2 hgrow2; have HF2 : Hid (GridB w1 w2 w1.heap.size (m + 1) T 0 (fun _ => 0) (fun _ _ => .int .i64 0)) := gridB_start (rowIs_made hown2 (made_one (.slice none 0 0) rfl (m + 1))) (made_below hgrow2) (Nat.le_refl _) _ _; clear hown2 hgrow2))
  clear hc0 hc1
  go_loopw [18] (fun t wr => ∃ (k : Nat) (rb : Nat → Nat), k ≤ m + 1 ∧ t = .int .i64 k ∧ Hid (GridB w1 wr w1.heap.size (m + 1) T k rb (fun _ _ => .int .i64 0))) (fun t _ => m + 1 - (intOf t).toNat)
  case atStart => exact ⟨0, _, Nat.zero_le _, rfl, HF2⟩
  case round =>
    clear HF2
    obtain ⟨k, rb, hk, rfl, HGR⟩ := hrel
    have hk0 : (0 : Int) ≤ (k : Int) := by omega
    rcases Nat.lt_or_ge k (m + 1) with h1 | h1
    · have hkI : (k : Int) < (m : Int) + 1 := by omega
      obtain ⟨xo, hxo⟩ := HGR.out.outer k h1
      have hfo := HGR.out.ofz k h1
      obtain ⟨c0, c1⟩ := HC.out _ HGR.out.below
      go_wp2_with (at_make; go_must (refine wpList_make_full _ rfl _ _ _ rfl wr.heap.size 3 i0 _ 1 Tryd.underlying30 HINI.out.1 HINI.out.2.1 HINI.out.2.2.1 .i64 .i64 _ _ T rfl rfl rfl rfl (by rw [HINI.out.2.2.2]; omega) (by unfold maxLen; omega) (Nat.le_refl _) ?_; intro w3 hown3 hgrow3; have hmb := made_below hgrow3; have hlt3 := made_lt hown3; have HG4 := Hid.mk' (HGR.out.push h1 hmb (Nat.le_refl _) hlt3 (rowIs_made hown3 (made_zero T))); obtain ⟨xo3, hxo3⟩ := (HGR.out.later hmb).outer k h1; have hfo3 := (HGR.out.later hmb).ofz k h1; clear hown3 hgrow3 hmb hlt3 hxo hfo c0 c1))
      exact ⟨⟨k + 1, _, h1, by go_num, Hid.mk' (HG4.out.cast fun i k hi hk => by split <;> rfl)⟩, by simp [intOf]; omega⟩
    · obtain rfl : k = m + 1 := by omega
      have hkI : ¬ (((m + 1 : Nat) : Int) < (m : Int) + 1) := by omega
      have hmd := HGR.out.made 0 (by omega)
      have hcell := (HGR.out.rows 0 (by omega)).row 0 (by omega)
      have hfz := (HGR.out.rows 0 (by omega)).fz 0 (by omega)
      have HN := Hid.mk' ((HGR.out.set (i := 0) (k := 0) (by omega) (by omega) (.int .i64 1) (f' := fun k o => .int .i64 ((evC p q 0 k o : Nat) : Int)) (fun i o _ _ => by
        rw [evC_start]
        by_cases e : i = 0 ∧ o = 0
        · rw [if_pos ⟨e.2, e.1⟩, if_pos e]; rfl
        · rw [if_neg (fun h => e ⟨h.2, h.1⟩), if_neg e]; rfl)))
      obtain ⟨W3, hW3⟩ : ∃ W3, W3 = wr.setCell ⟨rb 0, 0, none⟩ (.int .i64 1) := ⟨_, rfl⟩
      rw [← hW3] at HN
      have HW3 := Hid.mk' hW3
      obtain ⟨c0, c1⟩ := HC.out _ HN.out.below
      clear hW3
      go_upto_region 8 with fail
      rw [← HW3.out]
      clear hmd hcell hfz HGR HW3
      go_wp2_with fail
      clear c0 c1
      go_loopw [36] (fun t wx => ∃ i : Nat, i ≤ m ∧ t = .int .i64 i ∧ Hid (GridB w1 wx w1.heap.size (m + 1) T (m + 1) rb (fun k o => .int .i64 ((evC p q i k o : Nat) : Int)))) (fun t _ => m - (intOf t).toNat)
      case atStart => exact ⟨0, Nat.zero_le _, rfl, HN⟩
      case round =>
        clear HN
        obtain ⟨i, hi, rfl, HGI⟩ := hrel
        have hi0 : (0 : Int) ≤ (i : Int) := by omega
        rcases Nat.lt_or_ge i m with h2 | h2
        · have hiI : (i : Int) < (m : Int) := by omega
          obtain ⟨b, o, rfl, hT⟩ := (HG3.out _ HGI.out.below).at h2
          have e0 : wr.cell? ⟨b, o + i * 2, none⟩ = some (.int .i64 ((p i : Nat) : Int)) := (hT i h2).1
          have e1 : wr.cell? ⟨b, o + i * 2 + 1, none⟩ = some (.int .i64 ((q i : Nat) : Int)) := (hT i h2).2
          have hP := (HPQ.out i h2).1
          have hQ := (HPQ.out i h2).2
          have HEL : Hid (endB p q i < 2 ^ n) := endB_lt hP hQ
          obtain ⟨P, hPe⟩ : ∃ P, P = p i := ⟨_, rfl⟩
          obtain ⟨Q, hQe⟩ : ∃ Q, Q = q i := ⟨_, rfl⟩
          rw [← hPe] at e0 hP
          rw [← hQe] at e1 hQ
          have hPI : (P : Int) ≤ 13 := by omega
          have hQI : (Q : Int) ≤ 13 := by omega
          have hP0 : (0 : Int) ≤ (P : Int) := by omega
          have hQ0 : (0 : Int) ≤ (Q : Int) := by omega
          obtain ⟨xP, hxP⟩ : ∃ x : Nat, x = 2 ^ P := ⟨_, rfl⟩
          obtain ⟨xQ, hxQ⟩ : ∃ x : Nat, x = 2 ^ Q := ⟨_, rfl⟩
          have hsP : IntKind.i64.wrap (2 ^ P : Int) = (xP : Int) := by rw [shl_wrap P (by omega), hxP]; simp
          have hsQ : IntKind.i64.wrap (2 ^ Q : Int) = (xQ : Int) := by rw [shl_wrap Q (by omega), hxQ]; simp
          obtain ⟨E, hE⟩ : ∃ E, E = endB p q i := ⟨_, rfl⟩
          have hor : bits .or .i64 (xP : Int) (xQ : Int) = (E : Int) := by
            rw [i64_orN xP xQ (by rw [hxP]; exact Nat.pow_lt_pow_right (by decide) (by omega)) (by rw [hxQ]; exact Nat.pow_lt_pow_right (by decide) (by omega)), hE, endB, hxP, hxQ, hPe, hQe]
          have HEE := Hid.mk' hE
          have hET : E < T := by rw [hE, HT2.out]; exact HEL.out
          clear hPe hQe hxP hxQ hE hT
          have HGA := Hid.mk' (HGI.out.later ((Below.refl _ _).alloc (Nat.le_refl _) (.cells #[.int .i64 (P : Int), .int .i64 (Q : Int)] 34)))
          have c0 : (wr.alloc (.cells #[.int .i64 (P : Int), .int .i64 (Q : Int)] 34)).cell? ⟨wr.heap.size, 0, none⟩ = some (.int .i64 (P : Int)) := by go_simp
          have c1 : (wr.alloc (.cells #[.int .i64 (P : Int), .int .i64 (Q : Int)] 34)).cell? ⟨wr.heap.size, 1, none⟩ = some (.int .i64 (Q : Int)) := by go_simp
          have HCC := Hid.mk' (And.intro c0 c1)
          clear c0 c1 HGI
          go_wp2_with fail
          clear e0 e1
          generalize wr.alloc (.cells #[.int .i64 (P : Int), .int .i64 (Q : Int)] 34) = Wa at *
          generalize wr.heap.size = E0 at *
          obtain ⟨c0, c1⟩ := HCC.out
          go_quiet (fail)
          have HGQ := Hid.mk' (HGA.out.later (below_drewN (Below.refl _ _) nq))
          generalize Wa.drewN nq = Wq at *
          clear c0 c1 HGA HCC
          go_wp2_with fail
          go_loopw [8] (fun t wx => ∃ K : Nat, K ≤ i + 1 ∧ t = .int .i64 K ∧ Hid (GridB w1 wx w1.heap.size (m + 1) T (m + 1) rb (fun k o => .int .i64 ((mixE p q i K k o : Nat) : Int)))) (fun t _ => (intOf t).toNat)
          case atStart => exact ⟨i + 1, Nat.le_refl _, by go_num, Hid.mk' (HGQ.out.cast fun k o _ _ => by rw [mixE_start])⟩
          case round =>
            clear HGQ
            obtain ⟨K', hK, rfl, HGK⟩ := hrel
            rcases Nat.eq_zero_or_pos K' with h3 | h3
            · subst h3
              go_wp2_with fail
              exact ⟨⟨i + 1, h2, by go_num, Hid.mk' (HGK.out.cast fun k o _ _ => by rw [mixE_end])⟩, by simp [intOf]; omega⟩
            · obtain ⟨K, rfl⟩ : ∃ K, K' = K + 1 := ⟨K' - 1, by omega⟩
              have hKI : (K : Int) + 1 ≤ 31 := by omega
              have hK0 : (0 : Int) ≤ (K : Int) := by omega
              have hKm : (K : Int) < (m : Int) + 1 := by omega
              have hKm1 : (K : Int) + 1 < (m : Int) + 1 := by omega
              rw [show ((K + 1 : Nat) : Int) = (K : Int) + 1 by omega]
              have hmd := HGK.out.made K (by omega)
              go_wp2_with fail
              clear hmd
              go_loopw [60] (fun t wx => ∃ j : Nat, j ≤ T ∧ t = .int .i64 j ∧ Hid (GridB w1 wx w1.heap.size (m + 1) T (m + 1) rb (fun k o => .int .i64 ((rowE p q i K j k o : Nat) : Int)))) (fun t _ => T - (intOf t).toNat)
              case atStart => exact ⟨0, Nat.zero_le _, rfl, Hid.mk' (HGK.out.cast fun k o _ _ => by rw [rowE_start])⟩
              case round =>
                clear HGK
                obtain ⟨j, hj, rfl, HGJ⟩ := hrel
                have hj0 : (0 : Int) ≤ (j : Int) := by omega
                rcases Nat.lt_or_ge j T with h4 | h4
                · have hjI : (j : Int) < (T : Int) := by omega
                  have hmK := HGJ.out.made (K + 1) (by omega)
                  have hcK := (HGJ.out.rows K (by omega)).row j h4
                  rw [rowE_ahead] at hcK
                  obtain ⟨O, hO⟩ : ∃ O, O = j ^^^ E := ⟨_, rfl⟩
                  have hOT : O < T := by rw [hO, HT2.out]; exact Nat.xor_lt_two_pow (by rw [← HT2.out]; exact h4) (by rw [← HT2.out]; exact hET)
                  have hxo : bits .xor .i64 (j : Int) (E : Int) = (O : Int) := by rw [hO]; exact i64_xorN _ _ (by omega) (by omega)
                  have hcO := (HGJ.out.rows (K + 1) (by omega)).row O hOT
                  have hfO := (HGJ.out.rows (K + 1) (by omega)).fz O hOT
                  rw [hO, HEE.out, rowE_here, ← HEE.out, ← hO] at hcO
                  have HN := Hid.mk' (HGJ.out.set (i := K + 1) (k := O) (by omega) hOT (.int .i64 ((evC p q i (K + 1) O : Int) + (evC p q i K j : Int))) (f' := fun k o => .int .i64 ((rowE p q i K (j + 1) k o : Nat) : Int)) (fun k o _ _ => by
                    rw [rowE_step, ← HEE.out, ← hO]
                    split
                    · rw [show ((evC p q i (K + 1) O + evC p q i K j : Nat) : Int) = (evC p q i (K + 1) O : Int) + (evC p q i K j : Int) by omega]
                    · rfl))
                  have hb1 : evC p q i (K + 1) O ≤ 1073741824 := evC_small _ _ _ _ (by omega)
                  have hb2 : evC p q i K j ≤ 1073741824 := evC_small _ _ _ _ (by omega)
                  clear hO HGJ
                  generalize evC p q i (K + 1) O = X at *
                  generalize evC p q i K j = Y at *
                  have hX1 : (X : Int) ≤ 1073741824 := by omega
                  have hY1 : (Y : Int) ≤ 1073741824 := by omega
                  have hX0 : (0 : Int) ≤ (X : Int) := by omega
                  have hY0 : (0 : Int) ≤ (Y : Int) := by omega
                  have hOI : (O : Int) < (T : Int) := by omega
                  have hO0 : (0 : Int) ≤ (O : Int) := by omega
                  have hmK0 := hmK
                  go_wp2_with fail
                  exact ⟨⟨j + 1, h4, by go_num, HN⟩, by simp [intOf]; omega⟩
                · obtain rfl : j = T := by omega
                  go_wp2_with fail
                  refine ⟨⟨K, by omega, by go_num, Hid.mk' (HGJ.out.cast fun k o _ ho => ?_)⟩, by simp [intOf]⟩
                  rw [HT2.out, rowE_end HEL.out K k o (by rw [← HT2.out]; exact ho)]
        · obtain rfl : i = m := by omega
          go_wp2_with fail
          go_ret
          exact ⟨_, rb, rfl, by rw [← HT2.out]; exact HGI.out.base HB1.out⟩
end Go.Proofs.YtoghnbcjkgookabDoor
