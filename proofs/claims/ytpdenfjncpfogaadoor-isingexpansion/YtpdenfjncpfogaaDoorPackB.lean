/- ising.setsByOdd: a table of counts, bond by bond. -/
import Derived.Test.YtpdenfjncpfogaaDoorIsSt
import Derived.Test.YtpdenfjncpfogaaDoorPackA
import Derived.Test.YtpdenfjncpfogaaDoorIsBond
import Derived.Test.YtpdenfjncpfogaaDoorIsDoc
import Derived.Test.YtpdenfjncpfogaaDoorLastOp
import Derived.Deep.CutRange
import Derived.Test.YtpdenfjncpfogaaDoorRows
import Derived.Test.YtpdenfjncpfogaaDoorErrs
import Derived.ChangeSame
import Derived.ChangeVars
import Derived.JoinedOf
import Derived.LaidLaws
import Derived.LaidHandle
import Derived.LaidMore
import Derived.Stop.Joined
import Derived.Test.YtpdenfjncpfogaaDoorIsSys
import Derived.Test.YtpdenfjncpfogaaDoorCards
import Derived.Test.YtpdenfjncpfogaaDoorTie
import Derived.SevenTiedAt
import Derived.ProofKit
import Derived.OpenShut
import Derived.ChangeOld
import Derived.Lib.SmallJoins
import Derived.Deep.SlicePairs
namespace Go.Proofs.YtpdenfjncpfogaaDoor
open Go.RowKit

theorem Tryd.infoIntRow : (Tryd.prog.info? 22).map (fun i => (i.zero, i.size, i.bytes)) = some (some (.slice none 0 0), 1, 24) := by kernel_rfl
theorem GridB.base {w w1 wr : World} {g n C m : Nat} {rb : Nat → Nat} {f : Nat → Nat → Value} (h : GridB w1 wr g n C m rb f) (hb : Below w.heap.size w w1) : GridB w wr g n C m rb f :=
  ⟨below_chain hb h.below, Nat.le_trans hb.size h.hg, h.outer, h.made, h.ofz, fun i hi => ⟨Nat.le_trans hb.size (h.rge i hi).1, (h.rge i hi).2.1, (h.rge i hi).2.2⟩, h.inj, h.rows⟩
theorem GridB.cast {w wr : World} {g n C m : Nat} {rb : Nat → Nat} {f f' : Nat → Nat → Value} (h : GridB w wr g n C m rb f) (hf : ∀ i k, i < m → k < C → f' i k = f i k) : GridB w wr g n C m rb f' :=
  ⟨h.below, h.hg, h.outer, h.made, h.ofz, h.rge, h.inj, fun i hi => ⟨fun k hk => by rw [hf i k hi hk]; exact (h.rows i hi).row k hk, (h.rows i hi).fz⟩⟩
theorem made_lt {w : World} {b g n : Nat} {t : TypeId} {xs : List Value} (h : w.ownsRow b t 1 (.slice (some ⟨g, 0, none⟩) n n) n xs) : g < w.heap.size := by
  rcases h.2 with ⟨hx, _⟩ | ⟨g', cap', cur, hv, _, hh, _⟩
  · cases hx
  · obtain ⟨rfl, _⟩ : g = g' ∧ _ := by simpa using hv
    exact heap_lt hh

/-- The table while the bond at i is put in, down to row K. -/
def mixE (p q : Nat → Nat) (i K k o : Nat) : Nat := if K < k then evC p q (i + 1) k o else evC p q i k o
/-- The row K + 1 while it takes what lies in the row K, up to j. -/
def rowE (p q : Nat → Nat) (i K j k o : Nat) : Nat := if k = K + 1 then evC p q i k o + (if o ^^^ endB p q i < j then evC p q i K (o ^^^ endB p q i) else 0) else mixE p q i (K + 1) k o
theorem mixE_start (p q : Nat → Nat) (i k o : Nat) : mixE p q i (i + 1) k o = evC p q i k o := by
  unfold mixE
  split
  · rw [evC_many _ _ _ _ _ (by omega), evC_many _ _ _ _ _ (by omega)]
  · rfl
theorem mixE_end (p q : Nat → Nat) (i k o : Nat) : mixE p q i 0 k o = evC p q (i + 1) k o := by
  unfold mixE
  split
  · rfl
  · obtain rfl : k = 0 := by omega
    exact (evC_none _ _ _ _).symm
theorem rowE_start (p q : Nat → Nat) (i K k o : Nat) : rowE p q i K 0 k o = mixE p q i (K + 1) k o := by
  unfold rowE
  split
  · rename_i h
    rw [if_neg (Nat.not_lt_zero _), Nat.add_zero, mixE, if_neg (by omega)]
  · rfl
theorem rowE_end {p q : Nat → Nat} {i n : Nat} (he : endB p q i < 2 ^ n) (K k o : Nat) (ho : o < 2 ^ n) : rowE p q i K (2 ^ n) k o = mixE p q i K k o := by
  unfold rowE
  split
  · rename_i h
    subst h
    rw [if_pos (Nat.xor_lt_two_pow ho he), mixE, if_pos (by omega), evC_more]
  · rename_i h
    unfold mixE
    by_cases h1 : K + 1 < k
    · rw [if_pos h1, if_pos (by omega)]
    · rw [if_neg h1, if_neg (by omega)]
theorem evC_small (p q : Nat → Nat) (k o : Nat) {i : Nat} (hi : i ≤ 30) : evC p q i k o ≤ 1073741824 := Nat.le_trans (evC_le _ _ _ _ _) (Nat.pow_le_pow_right (n := 2) (by decide) hi)
theorem xor_self_cancel (o e : Nat) : o ^^^ e ^^^ e = o := by rw [Nat.xor_assoc, Nat.xor_self, Nat.xor_zero]
/-- One step of the row. -/
theorem rowE_step (p q : Nat → Nat) (i K j k o : Nat) : rowE p q i K (j + 1) k o = if k = K + 1 ∧ o = j ^^^ endB p q i then evC p q i (K + 1) (j ^^^ endB p q i) + evC p q i K j else rowE p q i K j k o := by
  unfold rowE
  by_cases h1 : k = K + 1
  · subst h1
    simp only [↓reduceIte, true_and]
    by_cases h2 : o = j ^^^ endB p q i
    · subst h2
      simp only [↓reduceIte, xor_self_cancel]
      rw [if_pos (Nat.lt_succ_self j)]
    · rw [if_neg h2]
      have h3 : o ^^^ endB p q i ≠ j := fun e => h2 (by rw [← e, xor_self_cancel])
      by_cases h4 : o ^^^ endB p q i < j
      · rw [if_pos h4, if_pos (show o ^^^ endB p q i < j + 1 by omega)]
      · rw [if_neg h4, if_neg (show ¬ o ^^^ endB p q i < j + 1 by omega)]
  · rw [if_neg h1, if_neg h1, if_neg (fun h : k = K + 1 ∧ o = j ^^^ endB p q i => h1 h.1)]
theorem rowE_here (p q : Nat → Nat) (i K j : Nat) : rowE p q i K j (K + 1) (j ^^^ endB p q i) = evC p q i (K + 1) (j ^^^ endB p q i) := by
  unfold rowE
  rw [if_pos rfl, xor_self_cancel, if_neg (Nat.lt_irrefl _), Nat.add_zero]
theorem rowE_ahead (p q : Nat → Nat) (i K j o : Nat) : rowE p q i K j K o = evC p q i K o := by
  unfold rowE mixE
  rw [if_neg (by omega), if_neg (by omega)]

set_option maxRecDepth 100000 in
set_option maxHeartbeats 8000000 in
theorem setsByOdd_any (n m : Nat) (ev : Value) (p q : Nat → Nat) (w : World) (hG : EdAt w ev m (fun i => (p i : Int)) (fun i => (q i : Int))) (hn : n ≤ 14) (hm : m ≤ 30) (hpq : ∀ i, i < m → p i < n ∧ q i < n) :
    Calls Tryd.prog 40 #[.agg #[.int .i64 n, ev]] w fun e w' => ∃ g rb, e = .returned (.slice (some ⟨g, 0, none⟩) (m + 1) (m + 1)) ∧ GridB w w' g (m + 1) (2 ^ n) (m + 1) rb (fun k o => .int .i64 ((evC p q m k o : Nat) : Int)) := by
  obtain ⟨i0, hi, hz0, hz1, hz2⟩ := info_parts Tryd.infoInt
  have HINI : Hid (Tryd.prog.info? 3 = some i0 ∧ i0.zero = some (.int .i64 0) ∧ i0.size = 1 ∧ i0.bytes = 8) := ⟨hi, hz0, hz1, hz2⟩
  clear hi hz0 hz1 hz2
  obtain ⟨i1, hi, hz0, hz1, hz2⟩ := info_parts Tryd.infoIntRow
  have HINF : Hid (Tryd.prog.info? 22 = some i1 ∧ i1.zero = some (.slice none 0 0) ∧ i1.size = 1 ∧ i1.bytes = 24) := ⟨hi, hz0, hz1, hz2⟩
  clear hi hz0 hz1 hz2
  obtain ⟨ad, cap, rfl, -⟩ := id hG
  obtain ⟨w1, hw1⟩ : ∃ w1, w1 = w.alloc (.cells #[.int .i64 n, .slice ad m cap] 51) := ⟨_, rfl⟩
  have hb1 : Below w.heap.size w w1 := by rw [hw1]; exact (Below.refl _ _).alloc (Nat.le_refl _) _
  have hc0 : w1.cell? ⟨w.heap.size, 0, none⟩ = some (.int .i64 n) := by rw [hw1]; go_simp
  have hc1 : w1.cell? ⟨w.heap.size, 1, none⟩ = some (.slice ad m cap) := by rw [hw1]; go_simp
  have HC : Hid (∀ W, Below w1.heap.size w1 W → W.cell? ⟨w.heap.size, 0, none⟩ = some (.int .i64 n) ∧ W.cell? ⟨w.heap.size, 1, none⟩ = some (.slice ad m cap)) := fun W hb => ⟨by rw [hb.cell (cell_lt hc0)]; exact hc0, by rw [hb.cell (cell_lt hc1)]; exact hc1⟩
  have HG3 : Hid (∀ W, Below w1.heap.size w1 W → EdAt W (.slice ad m cap) m (fun i => (p i : Int)) (fun i => (q i : Int))) := fun W hb => (hG.later hb1).later hb
  have HW1 := Hid.mk' hw1
  have HB1 := Hid.mk' hb1
  have HPQ := Hid.mk' hpq
  have hnI : (n : Int) ≤ 14 := by omega
  have hn0 : (0 : Int) ≤ (n : Int) := by omega
  have hmI : (m : Int) ≤ 30 := by omega
  have hm0 : (0 : Int) ≤ (m : Int) := by omega
  have HT : Hid (2 ^ n ≤ 16384) := Nat.pow_le_pow_right (n := 2) (by decide) hn
  have HTP : Hid (1 ≤ 2 ^ n) := Nat.one_le_two_pow
  obtain ⟨T, hT2⟩ : ∃ T : Nat, T = 2 ^ n := ⟨_, rfl⟩
  have hsh : IntKind.i64.wrap (2 ^ n : Int) = (T : Int) := by rw [shl_wrap n (by omega), hT2]; simp
  have HT2 := Hid.mk' hT2
  have hT3 : T ≤ 16384 := by rw [hT2]; exact HT.out
  have hT1 : 1 ≤ T := by rw [hT2]; exact HTP.out
  clear hG hpq hT2 hb1 hw1
  go_enter Tryd.func40, Tryd.ntmps40
  go_upto_region 1 with fail
  rw [← HW1.out]
  go_wp2_with (at_make; go_must (refine wpList_make_full _ rfl _ _ _ rfl w1.heap.size 22 i1 _ 1 Tryd.underlying77 HINF.out.1 HINF.out.2.1 HINF.out.2.2.1 .i64 .i64 _ _ (m + 1) rfl rfl (by go_num) (by go_num) (by rw [HINF.out.2.2.2]; omega) (by unfold maxLen; omega) (Nat.le_refl _) ?_; intro w2 hown2 hgrow2; have HF2 : Hid (GridB w1 w2 w1.heap.size (m + 1) T 0 (fun _ => 0) (fun _ _ => .int .i64 0)) := gridB_start (rowIs_made hown2 (made_one (.slice none 0 0) rfl (m + 1))) (made_below hgrow2) (Nat.le_refl _) _ _; clear hown2 hgrow2))
  clear hc0 hc1
  go_loopw [18] (fun t wr => ∃ (k : Nat) (rb : Nat → Nat), k ≤ m + 1 ∧ t = .int .i64 k ∧ Hid (GridB w1 wr w1.heap.size (m + 1) T k rb (fun _ _ => .int .i64 0))) (fun t _ => m + 1 - (intOf t).toNat)
  case atStart => exact ⟨0, _, Nat.zero_le _, rfl, HF2⟩
  case round =>
    clear HF2
    obtain ⟨k, rb, hk, rfl, HGR⟩ := hrel
    have hk0 : (0 : Int) ≤ (k : Int) := by omega
    rcases Nat.lt_or_ge k (m + 1) with h1 | h1
    · have hkI : (k : Int) < (m : Int) + 1 := by omega
      obtain ⟨xo, hxo⟩ := HGR.out.outer k h1
      have hfo := HGR.out.ofz k h1
      obtain ⟨c0, c1⟩ := HC.out _ HGR.out.below
      go_wp2_with (at_make; go_must (refine wpList_make_full _ rfl _ _ _ rfl wr.heap.size 3 i0 _ 1 Tryd.underlying22 HINI.out.1 HINI.out.2.1 HINI.out.2.2.1 .i64 .i64 _ _ T rfl rfl rfl rfl (by rw [HINI.out.2.2.2]; omega) (by unfold maxLen; omega) (Nat.le_refl _) ?_; intro w3 hown3 hgrow3; have hmb := made_below hgrow3; have hlt3 := made_lt hown3; have HG4 := Hid.mk' (HGR.out.push h1 hmb (Nat.le_refl _) hlt3 (rowIs_made hown3 (made_zero T))); obtain ⟨xo3, hxo3⟩ := (HGR.out.later hmb).outer k h1; have hfo3 := (HGR.out.later hmb).ofz k h1; clear hown3 hgrow3 hmb hlt3 hxo hfo c0 c1))
      exact ⟨⟨k + 1, _, h1, by go_num, Hid.mk' (HG4.out.cast fun i k hi hk => by split <;> rfl)⟩, by simp [intOf]; omega⟩
    · obtain rfl : k = m + 1 := by omega
      have hkI : ¬ (((m + 1 : Nat) : Int) < (m : Int) + 1) := by omega
      have hmd := HGR.out.made 0 (by omega)
      have hcell := (HGR.out.rows 0 (by omega)).row 0 (by omega)
      have hfz := (HGR.out.rows 0 (by omega)).fz 0 (by omega)
      have HN := Hid.mk' ((HGR.out.set (i := 0) (k := 0) (by omega) (by omega) (.int .i64 1) (f' := fun k o => .int .i64 ((evC p q 0 k o : Nat) : Int)) (fun i o _ _ => by
        rw [evC_start]
        by_cases e : i = 0 ∧ o = 0
        · rw [if_pos ⟨e.2, e.1⟩, if_pos e]; rfl
        · rw [if_neg (fun h => e ⟨h.2, h.1⟩), if_neg e]; rfl)))
      obtain ⟨W3, hW3⟩ : ∃ W3, W3 = wr.setCell ⟨rb 0, 0, none⟩ (.int .i64 1) := ⟨_, rfl⟩
      rw [← hW3] at HN
      have HW3 := Hid.mk' hW3
      obtain ⟨c0, c1⟩ := HC.out _ HN.out.below
      clear hW3
      go_upto_region 8 with fail
      rw [← HW3.out]
      clear hmd hcell hfz HGR HW3
      go_wp2_with fail
      clear c0 c1
      go_loopw [36] (fun t wx => ∃ i : Nat, i ≤ m ∧ t = .int .i64 i ∧ Hid (GridB w1 wx w1.heap.size (m + 1) T (m + 1) rb (fun k o => .int .i64 ((evC p q i k o : Nat) : Int)))) (fun t _ => m - (intOf t).toNat)
      case atStart => exact ⟨0, Nat.zero_le _, rfl, HN⟩
      case round =>
        clear HN
        obtain ⟨i, hi, rfl, HGI⟩ := hrel
        have hi0 : (0 : Int) ≤ (i : Int) := by omega
        rcases Nat.lt_or_ge i m with h2 | h2
        · have hiI : (i : Int) < (m : Int) := by omega
          obtain ⟨b, o, rfl, hT⟩ := (HG3.out _ HGI.out.below).at h2
          have e0 : wr.cell? ⟨b, o + i * 2, none⟩ = some (.int .i64 ((p i : Nat) : Int)) := (hT i h2).1
          have e1 : wr.cell? ⟨b, o + i * 2 + 1, none⟩ = some (.int .i64 ((q i : Nat) : Int)) := (hT i h2).2
          have hP := (HPQ.out i h2).1
          have hQ := (HPQ.out i h2).2
          have HEL : Hid (endB p q i < 2 ^ n) := endB_lt hP hQ
          obtain ⟨P, hPe⟩ : ∃ P, P = p i := ⟨_, rfl⟩
          obtain ⟨Q, hQe⟩ : ∃ Q, Q = q i := ⟨_, rfl⟩
          rw [← hPe] at e0 hP
          rw [← hQe] at e1 hQ
          have hPI : (P : Int) ≤ 13 := by omega
          have hQI : (Q : Int) ≤ 13 := by omega
          have hP0 : (0 : Int) ≤ (P : Int) := by omega
          have hQ0 : (0 : Int) ≤ (Q : Int) := by omega
          obtain ⟨xP, hxP⟩ : ∃ x : Nat, x = 2 ^ P := ⟨_, rfl⟩
          obtain ⟨xQ, hxQ⟩ : ∃ x : Nat, x = 2 ^ Q := ⟨_, rfl⟩
          have hsP : IntKind.i64.wrap (2 ^ P : Int) = (xP : Int) := by rw [shl_wrap P (by omega), hxP]; simp
          have hsQ : IntKind.i64.wrap (2 ^ Q : Int) = (xQ : Int) := by rw [shl_wrap Q (by omega), hxQ]; simp
          obtain ⟨E, hE⟩ : ∃ E, E = endB p q i := ⟨_, rfl⟩
          have hor : bits .or .i64 (xP : Int) (xQ : Int) = (E : Int) := by
            rw [i64_orN xP xQ (by rw [hxP]; exact Nat.pow_lt_pow_right (by decide) (by omega)) (by rw [hxQ]; exact Nat.pow_lt_pow_right (by decide) (by omega)), hE, endB, hxP, hxQ, hPe, hQe]
          have HEE := Hid.mk' hE
          have hET : E < T := by rw [hE, HT2.out]; exact HEL.out
          clear hPe hQe hxP hxQ hE hT
          have HGA := Hid.mk' (HGI.out.later ((Below.refl _ _).alloc (Nat.le_refl _) (.cells #[.int .i64 (P : Int), .int .i64 (Q : Int)] 57)))
          have c0 : (wr.alloc (.cells #[.int .i64 (P : Int), .int .i64 (Q : Int)] 57)).cell? ⟨wr.heap.size, 0, none⟩ = some (.int .i64 (P : Int)) := by go_simp
          have c1 : (wr.alloc (.cells #[.int .i64 (P : Int), .int .i64 (Q : Int)] 57)).cell? ⟨wr.heap.size, 1, none⟩ = some (.int .i64 (Q : Int)) := by go_simp
          have HCC := Hid.mk' (And.intro c0 c1)
          clear c0 c1 HGI
          go_wp2_with fail
          clear e0 e1
          generalize wr.alloc (.cells #[.int .i64 (P : Int), .int .i64 (Q : Int)] 57) = Wa at *
          generalize wr.heap.size = E0 at *
          obtain ⟨c0, c1⟩ := HCC.out
          go_quiet (fail)
          have HGQ := Hid.mk' (HGA.out.later (below_drewN (Below.refl _ _) nq))
          generalize Wa.drewN nq = Wq at *
          clear c0 c1 HGA HCC
          go_wp2_with fail
          go_loopw [8] (fun t wx => ∃ K : Nat, K ≤ i + 1 ∧ t = .int .i64 K ∧ Hid (GridB w1 wx w1.heap.size (m + 1) T (m + 1) rb (fun k o => .int .i64 ((mixE p q i K k o : Nat) : Int)))) (fun t _ => (intOf t).toNat)
          case atStart => exact ⟨i + 1, Nat.le_refl _, by go_num, Hid.mk' (HGQ.out.cast fun k o _ _ => by rw [mixE_start])⟩
          case round =>
            clear HGQ
            obtain ⟨K', hK, rfl, HGK⟩ := hrel
            rcases Nat.eq_zero_or_pos K' with h3 | h3
            · subst h3
              go_wp2_with fail
              exact ⟨⟨i + 1, h2, by go_num, Hid.mk' (HGK.out.cast fun k o _ _ => by rw [mixE_end])⟩, by simp [intOf]; omega⟩
            · obtain ⟨K, rfl⟩ : ∃ K, K' = K + 1 := ⟨K' - 1, by omega⟩
              have hKI : (K : Int) + 1 ≤ 31 := by omega
              have hK0 : (0 : Int) ≤ (K : Int) := by omega
              have hKm : (K : Int) < (m : Int) + 1 := by omega
              have hKm1 : (K : Int) + 1 < (m : Int) + 1 := by omega
              rw [show ((K + 1 : Nat) : Int) = (K : Int) + 1 by omega]
              have hmd := HGK.out.made K (by omega)
              go_wp2_with fail
              clear hmd
              go_loopw [60] (fun t wx => ∃ j : Nat, j ≤ T ∧ t = .int .i64 j ∧ Hid (GridB w1 wx w1.heap.size (m + 1) T (m + 1) rb (fun k o => .int .i64 ((rowE p q i K j k o : Nat) : Int)))) (fun t _ => T - (intOf t).toNat)
              case atStart => exact ⟨0, Nat.zero_le _, rfl, Hid.mk' (HGK.out.cast fun k o _ _ => by rw [rowE_start])⟩
              case round =>
                clear HGK
                obtain ⟨j, hj, rfl, HGJ⟩ := hrel
                have hj0 : (0 : Int) ≤ (j : Int) := by omega
                rcases Nat.lt_or_ge j T with h4 | h4
                · have hjI : (j : Int) < (T : Int) := by omega
                  have hmK := HGJ.out.made (K + 1) (by omega)
                  have hcK := (HGJ.out.rows K (by omega)).row j h4
                  rw [rowE_ahead] at hcK
                  obtain ⟨O, hO⟩ : ∃ O, O = j ^^^ E := ⟨_, rfl⟩
                  have hOT : O < T := by rw [hO, HT2.out]; exact Nat.xor_lt_two_pow (by rw [← HT2.out]; exact h4) (by rw [← HT2.out]; exact hET)
                  have hxo : bits .xor .i64 (j : Int) (E : Int) = (O : Int) := by rw [hO]; exact i64_xorN _ _ (by omega) (by omega)
                  have hcO := (HGJ.out.rows (K + 1) (by omega)).row O hOT
                  have hfO := (HGJ.out.rows (K + 1) (by omega)).fz O hOT
                  rw [hO, HEE.out, rowE_here, ← HEE.out, ← hO] at hcO
                  have HN := Hid.mk' (HGJ.out.set (i := K + 1) (k := O) (by omega) hOT (.int .i64 ((evC p q i (K + 1) O : Int) + (evC p q i K j : Int))) (f' := fun k o => .int .i64 ((rowE p q i K (j + 1) k o : Nat) : Int)) (fun k o _ _ => by
                    rw [rowE_step, ← HEE.out, ← hO]
                    split
                    · rw [show ((evC p q i (K + 1) O + evC p q i K j : Nat) : Int) = (evC p q i (K + 1) O : Int) + (evC p q i K j : Int) by omega]
                    · rfl))
                  have hb1 : evC p q i (K + 1) O ≤ 1073741824 := evC_small _ _ _ _ (by omega)
                  have hb2 : evC p q i K j ≤ 1073741824 := evC_small _ _ _ _ (by omega)
                  clear hO HGJ
                  generalize evC p q i (K + 1) O = X at *
                  generalize evC p q i K j = Y at *
                  have hX1 : (X : Int) ≤ 1073741824 := by omega
                  have hY1 : (Y : Int) ≤ 1073741824 := by omega
                  have hX0 : (0 : Int) ≤ (X : Int) := by omega
                  have hY0 : (0 : Int) ≤ (Y : Int) := by omega
                  have hOI : (O : Int) < (T : Int) := by omega
                  have hO0 : (0 : Int) ≤ (O : Int) := by omega
                  have hmK0 := hmK
                  go_wp2_with fail
                  exact ⟨⟨j + 1, h4, by go_num, HN⟩, by simp [intOf]; omega⟩
                · obtain rfl : j = T := by omega
                  go_wp2_with fail
                  refine ⟨⟨K, by omega, by go_num, Hid.mk' (HGJ.out.cast fun k o _ ho => ?_)⟩, by simp [intOf]⟩
                  rw [HT2.out, rowE_end HEL.out K k o (by rw [← HT2.out]; exact ho)]
        · obtain rfl : i = m := by omega
          go_wp2_with fail
          go_ret
          exact ⟨_, rb, rfl, by rw [← HT2.out]; exact HGI.out.base HB1.out⟩
end Go.Proofs.YtpdenfjncpfogaaDoor

/- ising.Even. -/
namespace Go.Proofs.YtpdenfjncpfogaaDoor
open Go.RowKit

theorem Even_bad (a : Nat → Addr) (N : Int) (m : Nat) (ev : Value) (p q : Nat → Int) (w : World) (hE : Errs w a) (hG : EdAt w ev m p q) (hm : m ≤ 1000) (hb : syE N m p q ≠ 0) :
    Calls Tryd.prog 18 #[.agg #[.int .i64 N, ev]] w fun e w' => e = .returned (.tuple #[.slice none 0 0, errV a (syE N m p q)]) ∧ Below w.heap.size w w' := by
  obtain ⟨ad, cap, rfl, -⟩ := id hG
  obtain ⟨w1, hw1⟩ : ∃ w1, w1 = w.alloc (.cells #[.int .i64 N, .slice ad m cap] 51) := ⟨_, rfl⟩
  have hb1 : Below w.heap.size w w1 := by rw [hw1]; exact (Below.refl _ _).alloc (Nat.le_refl _) _
  have hc0 : w1.cell? ⟨w.heap.size, 0, none⟩ = some (.int .i64 N) := by rw [hw1]; go_simp
  have hc1 : w1.cell? ⟨w.heap.size, 1, none⟩ = some (.slice ad m cap) := by rw [hw1]; go_simp
  have HV := Hid.mk' (IValid_any a N m _ p q w1 (hE.below hb1) (hG.later hb1) hm)
  have HW1 := Hid.mk' hw1
  have HB1 := Hid.mk' hb1
  have hR := errV_pos a hb
  rw [hR] at HV ⊢
  clear hE hG hb1 hw1
  generalize a (syE N m p q - 1) = EA at *
  clear hR
  go_enter Tryd.func18, Tryd.ntmps18
  go_upto_region 1 with fail
  rw [← HW1.out]
  go_wp2_with fail
  refine HV.out.mono ?_
  rintro e w2 ⟨rfl, hb2⟩
  have HB2 := Hid.mk' (below_chain HB1.out hb2)
  clear hb2 HV hc0 hc1
  go_wp2_with fail
  go_ret2
  exact ⟨rfl, HB2.out⟩

theorem syE_right {n m : Nat} {p q : Nat → Nat} (hn : n ≤ 14) (hm : m ≤ 30) (hpq : ∀ i, i < m → p i < n ∧ q i < n ∧ p i ≠ q i) : syE (n : Int) m (fun i => (p i : Int)) (fun i => (q i : Int)) = 0 := by
  unfold syE
  rw [if_neg (by omega), if_pos]
  apply bdsB_of
  intro i hi
  have := hpq i hi
  simp [bdB, hasB]
  omega

set_option maxRecDepth 100000 in
set_option maxHeartbeats 4000000 in
theorem Even_ok (a : Nat → Addr) (n m : Nat) (ev : Value) (p q : Nat → Nat) (w : World) (hE : Errs w a) (hG : EdAt w ev m (fun i => (p i : Int)) (fun i => (q i : Int))) (hn : n ≤ 14) (hm : m ≤ 30) (hpq : ∀ i, i < m → p i < n ∧ q i < n ∧ p i ≠ q i) :
    Calls Tryd.prog 18 #[.agg #[.int .i64 n, ev]] w fun e w' => ∃ g, e = .returned (.tuple #[.slice (some ⟨g, 0, none⟩) (m + 1) (m + 1), .nilIface]) ∧ Fills w w' g (m + 1) (fun k => ((evC p q m k 0 : Nat) : Int)) := by
  obtain ⟨i0, hi, hz0, hz1, hz2⟩ := info_parts Tryd.infoInt
  have HINF : Hid (Tryd.prog.info? 3 = some i0 ∧ i0.zero = some (.int .i64 0) ∧ i0.size = 1 ∧ i0.bytes = 8) := ⟨hi, hz0, hz1, hz2⟩
  clear hi hz0 hz1 hz2
  obtain ⟨ad, cap, rfl, -⟩ := id hG
  have hE0 := syE_right hn hm hpq
  obtain ⟨w1, hw1⟩ : ∃ w1, w1 = w.alloc (.cells #[.int .i64 n, .slice ad m cap] 51) := ⟨_, rfl⟩
  have hb1 : Below w.heap.size w w1 := by rw [hw1]; exact (Below.refl _ _).alloc (Nat.le_refl _) _
  have hc0 : w1.cell? ⟨w.heap.size, 0, none⟩ = some (.int .i64 n) := by rw [hw1]; go_simp
  have hc1 : w1.cell? ⟨w.heap.size, 1, none⟩ = some (.slice ad m cap) := by rw [hw1]; go_simp
  have HC : Hid (∀ W, Below w1.heap.size w1 W → W.cell? ⟨w.heap.size, 0, none⟩ = some (.int .i64 n) ∧ W.cell? ⟨w.heap.size, 1, none⟩ = some (.slice ad m cap)) := fun W hb => ⟨by rw [hb.cell (cell_lt hc0)]; exact hc0, by rw [hb.cell (cell_lt hc1)]; exact hc1⟩
  have HV := Hid.mk' (IValid_any a n m _ _ _ w1 (hE.below hb1) (hG.later hb1) (by omega))
  rw [hE0, errV_zero] at HV
  have HG := Hid.mk' (hG.later hb1)
  have HW1 := Hid.mk' hw1
  have HB1 := Hid.mk' hb1
  have HSO : Hid (∀ W, Below w1.heap.size w1 W → Calls Tryd.prog 40 #[.agg #[.int .i64 n, .slice ad m cap]] W fun e w' => ∃ g rb, e = .returned (.slice (some ⟨g, 0, none⟩) (m + 1) (m + 1)) ∧ GridB W w' g (m + 1) (2 ^ n) (m + 1) rb (fun k o => .int .i64 ((evC p q m k o : Nat) : Int))) := fun W hb => setsByOdd_any n m _ p q W (HG.out.later hb) hn hm (fun i hi => ⟨(hpq i hi).1, (hpq i hi).2.1⟩)
  have hmI : (m : Int) ≤ 30 := by omega
  have hm0 : (0 : Int) ≤ (m : Int) := by omega
  have HTP : Hid (1 ≤ 2 ^ n) := Nat.one_le_two_pow
  obtain ⟨T, hT⟩ : ∃ T : Nat, T = 2 ^ n := ⟨_, rfl⟩
  rw [← hT] at HSO HTP
  clear hE hG hb1 hw1 hpq hE0 hT
  go_enter Tryd.func18, Tryd.ntmps18
  go_upto_region 1 with fail
  rw [← HW1.out]
  go_wp2_with fail
  refine HV.out.mono ?_
  rintro e w2 ⟨rfl, hb2⟩
  have HB2 := Hid.mk' hb2
  clear HV hc0 hc1
  obtain ⟨c0, c1⟩ := HC.out _ hb2
  clear hb2
  go_wp2_with fail
  refine (HSO.out _ HB2.out).mono ?_
  rintro e w3 ⟨g3, rb, rfl, hg3⟩
  have HG3 := Hid.mk' hg3
  have HB3 := Hid.mk' (below_chain HB1.out (below_chain HB2.out hg3.below))
  clear hg3 c0 c1
  go_wp2_with (at_make; go_must (refine wpList_make_full _ rfl _ _ _ rfl w3.heap.size 3 i0 _ 1 Tryd.underlying22 HINF.out.1 HINF.out.2.1 HINF.out.2.2.1 .i64 .i64 _ _ (m + 1) rfl rfl rfl rfl (by rw [HINF.out.2.2.2]; omega) (by unfold maxLen; omega) (Nat.le_refl _) ?_; intro w4 hown4 hgrow4; have HF4 := Hid.mk' (fills_made hown4 (made_zero (m + 1)) hgrow4); clear hown4 hgrow4))
  go_loopw [21] (fun t wr => ∃ k : Nat, k ≤ m + 1 ∧ t = .int .i64 k ∧ Hid (Fills w3 wr w3.heap.size (m + 1) (fun i => if i < k then ((evC p q m i 0 : Nat) : Int) else 0))) (fun t _ => m + 1 - (intOf t).toNat)
  case atStart => exact ⟨0, Nat.zero_le _, rfl, HF4⟩
  case round =>
    clear HF4
    obtain ⟨k, hk, rfl, HF⟩ := hrel
    have hk0 : (0 : Int) ≤ (k : Int) := by omega
    rcases Nat.lt_or_ge k (m + 1) with h1 | h1
    · have hkI : (k : Int) < (m : Int) + 1 := by omega
      have hGk := HG3.out.later HF.out.below
      have hmd := hGk.made k h1
      have hcl := (hGk.rows k h1).row 0 HTP.out
      have ck := HF.out.row k h1
      have fk := HF.out.fz k h1
      rw [Nat.zero_add] at ck fk
      have hT0 : (0 : Int) < (T : Int) := by have := HTP.out; omega
      have HN := Hid.mk' (HF.out.set h1 ((evC p q m k 0 : Nat) : Int) (f' := fun i => if i < k + 1 then ((evC p q m i 0 : Nat) : Int) else 0) (fun i _ => by
        by_cases e : i = k
        · subst e; rw [if_pos rfl, if_pos (by omega)]
        · rw [if_neg e]
          by_cases e2 : i < k
          · rw [if_pos e2, if_pos (by omega)]
          · rw [if_neg e2, if_neg (by omega)]))
      clear hGk HF
      go_wp2_with fail
      exact ⟨⟨k + 1, h1, by go_num, HN⟩, by simp [intOf]; omega⟩
    · obtain rfl : k = m + 1 := by omega
      have hkI : ¬ (((m + 1 : Nat) : Int) < (m : Int) + 1) := by omega
      go_wp2_with fail
      go_ret2
      refine ⟨_, rfl, ?_⟩
      have h2 := HF.out
      refine ⟨fun i hi => ?_, h2.fz, below_chain HB3.out h2.below, Nat.le_trans HB3.out.size h2.hg⟩
      have h3 := h2.row i hi
      simp only [if_pos hi] at h3
      exact h3
end Go.Proofs.YtpdenfjncpfogaaDoor

/- VAN DER WAERDEN's expansion in fractions: what the law's two sides come to. -/
namespace Go.Proofs.YtpdenfjncpfogaaDoor
open Go.RowKit

theorem hoN_sum (c : Nat → Nat) (a : Int) (d n : Nat) : ∀ j, j ≤ n → hoN c a d n j = sI (fun t => (c (n - j + t) : Int) * (a ^ t * (d : Int) ^ (j - t))) j
  | 0, _ => rfl
  | j + 1, h => by
    show hoN c a d n j * a + (c (n - 1 - j) : Int) * ((d ^ (j + 1) : Nat) : Int) = _
    rw [sI_first, hoN_sum c a d n j (by omega)]
    have e1 : sI (fun k => (c (n - (j + 1) + (k + 1)) : Int) * (a ^ (k + 1) * (d : Int) ^ (j + 1 - (k + 1)))) j = sI (fun t => a * ((c (n - j + t) : Int) * (a ^ t * (d : Int) ^ (j - t)))) j := sI_congr fun t _ => by
      show (c (n - (j + 1) + (t + 1)) : Int) * (a ^ (t + 1) * (d : Int) ^ (j + 1 - (t + 1))) = a * ((c (n - j + t) : Int) * (a ^ t * (d : Int) ^ (j - t)))
      rw [show n - (j + 1) + (t + 1) = n - j + t by omega, show j + 1 - (t + 1) = j - t by omega, Int.pow_succ]
      grind
    rw [e1, sI_mul]
    show _ = (c (n - (j + 1) + 0) : Int) * (a ^ 0 * (d : Int) ^ (j + 1 - 0)) + _
    rw [show n - (j + 1) + 0 = n - 1 - j by omega, Nat.sub_zero, Int.natCast_pow]
    grind
theorem hoN_all (c : Nat → Nat) (a : Int) (d m : Nat) : hoN c a d (m + 1) (m + 1) = (d : Int) * sI (fun k => (c k : Int) * (a ^ k * (d : Int) ^ (m - k))) (m + 1) := by
  rw [hoN_sum c a d (m + 1) (m + 1) (Nat.le_refl _), ← sI_mul]
  refine sI_congr fun k hk => ?_
  show (c (m + 1 - (m + 1) + k) : Int) * (a ^ k * (d : Int) ^ (m + 1 - k)) = _
  rw [Nat.sub_self, Nat.zero_add, show m + 1 - k = m - k + 1 by omega, Int.pow_succ]
  grind
/-- A term of the right side, without its count. -/
def xT (a : Int) (d m k : Nat) : Int := ((d : Int) - a) ^ k * (a + (d : Int)) ^ (m - k)
def xS (a : Int) (d m : Nat) (b : Nat → Nat) : Nat → Int := sI (fun k => (b k : Int) * xT a d m k)
theorem xT_le {a : Int} {d m k : Nat} (ha : a.natAbs ≤ 1000) (hd : d ≤ 1000) (hm : m ≤ 30) (hk : k ≤ m) : (xT a d m k).natAbs ≤ 2000 ^ 30 := by
  have h1 : ((d : Int) - a).natAbs ≤ 2000 := by omega
  have h2 : (a + (d : Int)).natAbs ≤ 2000 := by omega
  unfold xT
  rw [Int.natAbs_mul, Int.natAbs_pow, Int.natAbs_pow]
  refine Nat.le_trans (Nat.mul_le_mul (Nat.pow_le_pow_left h1 _) (Nat.pow_le_pow_left h2 _)) ?_
  rw [← Nat.pow_add, show k + (m - k) = m by omega]
  exact Nat.pow_le_pow_right (by decide) hm
theorem xS_le {a : Int} {d m : Nat} {b : Nat → Nat} (ha : a.natAbs ≤ 1000) (hd : d ≤ 1000) (hm : m ≤ 30) (hb : ∀ k, b k ≤ 2 ^ 30) : ∀ j, j ≤ m + 1 → (xS a d m b j).natAbs ≤ j * (2 ^ 30 * 2000 ^ 30)
  | 0, _ => by simp [xS, sI]
  | j + 1, h => by
    have ih := xS_le ha hd hm hb j (by omega)
    show (xS a d m b j + (b j : Int) * xT a d m j).natAbs ≤ _
    have h1 := Int.natAbs_add_le (xS a d m b j) ((b j : Int) * xT a d m j)
    have h2 : ((b j : Int) * xT a d m j).natAbs ≤ 2 ^ 30 * 2000 ^ 30 := by
      rw [Int.natAbs_mul, Int.natAbs_natCast]
      exact Nat.mul_le_mul (hb j) (xT_le ha hd hm (by omega))
    rw [Nat.succ_mul]
    exact Nat.le_trans h1 (Nat.add_le_add ih h2)
theorem d_sml {d j : Nat} (hd0 : 0 < d) (hd : d ≤ 1000) (hj : j ≤ 31) {z : Int} (hz : z.natAbs ≤ 31 * (2 ^ 40 * 2000 ^ 31) * 2 ^ 30) : Sml (d ^ j) z := by
  have p1 := pow_sml (n := j) (a := 0) hd0 hd (by decide) hj
  exact ⟨p1.1, p1.2.1, Nat.lt_of_le_of_lt hz (by decide)⟩
theorem xT_sml {a : Int} {d m k : Nat} (ha : a.natAbs ≤ 1000) (hd0 : 0 < d) (hd : d ≤ 1000) (hm : m ≤ 30) (hk : k ≤ m) : Sml (d ^ m) (xT a d m k) := d_sml hd0 hd (by omega) (Nat.le_trans (xT_le ha hd hm hk) (by decide))
theorem bT_sml {a : Int} {d m k : Nat} {b : Nat → Nat} (ha : a.natAbs ≤ 1000) (hd0 : 0 < d) (hd : d ≤ 1000) (hm : m ≤ 30) (hk : k ≤ m) (hb : ∀ k, b k ≤ 2 ^ 30) : Sml (d ^ m) ((b k : Int) * xT a d m k) := d_sml hd0 hd (by omega) (by
  rw [Int.natAbs_mul, Int.natAbs_natCast]
  exact Nat.le_trans (Nat.mul_le_mul (hb k) (xT_le ha hd hm hk)) (by decide))
theorem xS_sml {a : Int} {d m j : Nat} {b : Nat → Nat} (ha : a.natAbs ≤ 1000) (hd0 : 0 < d) (hd : d ≤ 1000) (hm : m ≤ 30) (hj : j ≤ m + 1) (hb : ∀ k, b k ≤ 2 ^ 30) : Sml (d ^ m) (xS a d m b j) := d_sml hd0 hd (by omega) (by
  refine Nat.le_trans (xS_le ha hd hm hb j hj) (Nat.le_trans (Nat.mul_le_mul_right _ (show j ≤ 31 by omega)) (by decide)))
theorem xR_sml {a : Int} {d m n : Nat} {b : Nat → Nat} (ha : a.natAbs ≤ 1000) (hd0 : 0 < d) (hd : d ≤ 1000) (hm : m ≤ 30) (hn : n ≤ 14) (hb : ∀ k, b k ≤ 2 ^ 30) : Sml (d ^ m) (xS a d m b (m + 1) * 2 ^ n) := d_sml hd0 hd (by omega) (by
  rw [Int.natAbs_mul, Int.natAbs_pow]
  refine Nat.le_trans (Nat.mul_le_mul (Nat.le_trans (xS_le ha hd hm hb (m + 1) (Nat.le_refl _)) (Nat.mul_le_mul_right _ (show m + 1 ≤ 31 by omega))) (Nat.pow_le_pow_right (by decide) hn)) (by decide))
theorem xL_sml {a : Int} {d m : Nat} {c : Nat → Nat} (ha : a.natAbs ≤ 1000) (hd0 : 0 < d) (hd : d ≤ 1000) (hm : m ≤ 30) (hc : ∀ i, c i ≤ 1099511627776) : Sml (d ^ (m + 1)) (hoN c a d (m + 1) (m + 1) * 2 ^ m) := d_sml hd0 hd (by omega) (by
  rw [Int.natAbs_mul, Int.natAbs_pow]
  refine Nat.le_trans (Nat.mul_le_mul (Nat.le_trans (hoN_le (n := m + 1) hc ha hd (m + 1)) (Nat.mul_le_mul (Nat.mul_le_mul_right _ (show m + 1 ≤ 31 by omega)) (Nat.pow_le_pow_right (by decide) (show m + 1 ≤ 31 by omega)))) (Nat.pow_le_pow_right (by decide) hm)) (by decide))
theorem two_sml {j : Nat} (hj : j ≤ 30) : Sml (1 ^ j) ((2 : Int) ^ j) := pow_sml (by decide) (by decide) (by decide) (by omega)
/-- The law's equation. -/
theorem vdw_law {p q : Nat → Nat} {n m : Nat} (h : ∀ i, i < m → p i < n ∧ q i < n ∧ p i ≠ q i) (a : Int) (d : Nat) :
    hoN (stK p q n m) a d (m + 1) (m + 1) * 2 ^ m * ((d ^ m : Nat) : Int) = xS a d m (fun k => evC p q m k 0) (m + 1) * 2 ^ n * ((d ^ (m + 1) : Nat) : Int) := by
  have h1 := vdw h a (d : Int)
  have e1 : xS a d m (fun k => evC p q m k 0) (m + 1) = sI (fun k => (evC p q m k 0 : Int) * ((d : Int) - a) ^ k * (a + (d : Int)) ^ (m - k)) (m + 1) := sI_congr fun k _ => by
    show (evC p q m k 0 : Int) * (((d : Int) - a) ^ k * (a + (d : Int)) ^ (m - k)) = _
    rw [Int.mul_assoc]
  rw [hoN_all, e1, Nat.pow_succ, Int.natCast_mul]
  generalize sI (fun k => (stK p q n m k : Int) * (a ^ k * (d : Int) ^ (m - k))) (m + 1) = A at *
  generalize sI (fun k => (evC p q m k 0 : Int) * ((d : Int) - a) ^ k * (a + (d : Int)) ^ (m - k)) (m + 1) = B at *
  generalize ((d ^ m : Nat) : Int) = D
  generalize (2 : Int) ^ m = U at *
  generalize (2 : Int) ^ n = V at *
  calc (d : Int) * A * U * D = (U * A) * (d : Int) * D := by grind
    _ = V * B * (d : Int) * D := by rw [h1]
    _ = B * V * (D * (d : Int)) := by grind
end Go.Proofs.YtpdenfjncpfogaaDoor

/- IsingExpansion: the law where nothing is said. -/
namespace Go.Proofs.YtpdenfjncpfogaaDoor
open Go.RowKit

theorem xcell {w : World} {g n c : Nat} {f : Nat → Nat} (h : NumsAt w (.slice (some ⟨g, 0, none⟩) n c) n (fun k => ((f k : Nat) : Int))) {k : Nat} (hk : k < n) : w.cell? ⟨g, k, none⟩ = some (.int .i64 ((f k : Nat) : Int)) := by
  rcases h with ⟨_, _, _, h0⟩ | ⟨b, o, cap, hv, _, hr⟩
  · omega
  · simp only [Value.slice.injEq, Option.some.injEq, Addr.mk.injEq, and_true, true_and] at hv
    obtain ⟨⟨rfl, rfl⟩, rfl⟩ := hv
    have h9 := hr k hk
    rwa [Nat.zero_add] at h9
theorem numsL {w wr : World} {g L : Nat} {f : Nat → Int} (hL : 0 < L) (h : Fills w wr g L f) : NumsAt wr (.slice (some ⟨g, 0, none⟩) L L) L f := by
  obtain ⟨m, rfl⟩ : ∃ m, L = m + 1 := ⟨L - 1, by omega⟩
  exact h.nums

set_option maxRecDepth 100000 in
set_option maxHeartbeats 16000000 in
theorem IsingExpansion_no (a : Nat → Addr) (N : Int) (m : Nat) (ev : Value) (p q : Nat → Int) (X D : Int) (w : World) (hE : Errs w a) (hG : EdAt w ev m p q) (hm : m ≤ maxLen) (hno : ¬ (m ≤ 200 ∧ syE N m p q = 0 ∧ 1 ≤ D ∧ D ≤ 1000 ∧ X ≤ 1000 ∧ -1000 ≤ X)) :
    Calls Tryd.prog 4 #[.agg #[.int .i64 N, ev], .agg #[.int .i64 X, .int .i64 D]] w fun e w' => e = .returned (.bool true) ∧ Below w.heap.size w w' := by
  obtain ⟨ad, cap, rfl, -⟩ := id hG
  obtain ⟨w1, hw1⟩ : ∃ w1, w1 = (w.alloc (.cells #[.int .i64 N, .slice ad m cap] 46)).alloc (.cells #[.int .i64 X, .int .i64 D] 24) := ⟨_, rfl⟩
  have hb1 : Below w.heap.size w w1 := by rw [hw1]; exact ((Below.refl _ _).alloc (Nat.le_refl _) _).alloc (by simp) _
  have hc0 : w1.cell? ⟨w.heap.size, 0, none⟩ = some (.int .i64 N) := by rw [hw1, World.cell?_alloc_lt _ _ ⟨w.heap.size, 0, none⟩ (by simp), World.cell?_alloc_at _ _ _ _ rfl]; rfl
  have hc1 : w1.cell? ⟨w.heap.size, 1, none⟩ = some (.slice ad m cap) := by rw [hw1, World.cell?_alloc_lt _ _ ⟨w.heap.size, 1, none⟩ (by simp), World.cell?_alloc_at _ _ _ _ rfl]; rfl
  have hc2 : w1.cell? ⟨w.heap.size + 1, 0, none⟩ = some (.int .i64 X) := by rw [hw1, World.cell?_alloc_at _ _ _ _ (by simp)]; rfl
  have hc3 : w1.cell? ⟨w.heap.size + 1, 1, none⟩ = some (.int .i64 D) := by rw [hw1, World.cell?_alloc_at _ _ _ _ (by simp)]; rfl
  have HC : Hid (∀ W, Below w1.heap.size w1 W → W.cell? ⟨w.heap.size, 0, none⟩ = some (.int .i64 N) ∧ W.cell? ⟨w.heap.size, 1, none⟩ = some (.slice ad m cap) ∧ W.cell? ⟨w.heap.size + 1, 0, none⟩ = some (.int .i64 X) ∧ W.cell? ⟨w.heap.size + 1, 1, none⟩ = some (.int .i64 D)) := fun W hb => ⟨by rw [hb.cell (cell_lt hc0)]; exact hc0, by rw [hb.cell (cell_lt hc1)]; exact hc1, by rw [hb.cell (cell_lt hc2)]; exact hc2, by rw [hb.cell (cell_lt hc3)]; exact hc3⟩
  have HE : Hid (∀ W, Below w1.heap.size w1 W → Errs W a) := fun W hb => (hE.below hb1).below hb
  have HG : Hid (∀ W, Below w1.heap.size w1 W → EdAt W (.slice ad m cap) m p q) := fun W hb => (hG.later hb1).later hb
  have HW1 := Hid.mk' hw1
  have HEND : Hid (∀ W, Below w1.heap.size w1 W → Below w.heap.size w W) := fun W hb => hb1.trans (hb.mono hb1.size)
  have HPE := Hid.mk' (bond_any a w1 (hE.below hb1))
  have HM := Hid.mk' hm
  clear hE hG hb1 hw1 hc0 hc1 hc2 hc3 hm
  go_enter Tryd.func4, Tryd.ntmps4
  go_upto_region 1 with fail
  rw [← HW1.out]
  go_wp2_with fail
  refine HPE.out.mono ?_
  rintro e w2 ⟨rfl, hb2⟩
  have HB2 := Hid.mk' hb2
  obtain ⟨c0, c1, c2, c3⟩ := HC.out _ hb2
  clear hb2 HPE
  have HLI := Hid.mk' (tiny_any N ad m cap HM.out w2)
  by_cases h200 : m ≤ 200
  · rw [decide_eq_true h200] at HLI
    go_wp2_with fail
    refine HLI.out.mono ?_
    rintro e w3 ⟨rfl, hb3⟩
    have HB3 := Hid.mk' (HB2.out.trans (hb3.mono HB2.out.size))
    clear hb3 HLI HB2 c0 c1 c2 c3
    obtain ⟨c0, c1, c2, c3⟩ := HC.out _ HB3.out
    have HGE := Hid.mk' (SystemError_any N m _ p q w3 (HG.out _ HB3.out) (by omega))
    go_wp2_with fail
    refine HGE.out.mono ?_
    rintro e w4 ⟨rfl, hb4⟩
    have HB4 := Hid.mk' (HB3.out.trans (hb4.mono HB3.out.size))
    clear hb4 HGE HB3 c0 c1 c2 c3
    obtain ⟨c0, c1, c2, c3⟩ := HC.out _ HB4.out
    generalize syE N m p q = E at *
    by_cases h0 : E = 0
    · subst h0
      by_cases d1 : D < 1
      · clear hno
        go_wp2_with fail
        go_ret
        exact ⟨rfl, HEND.out _ HB4.out⟩
      · by_cases d2 : 1000 < D
        · clear hno
          go_wp2_with fail
          go_ret
          exact ⟨rfl, HEND.out _ HB4.out⟩
        · by_cases d3 : 1000 < X
          · clear hno
            go_wp2_with fail
            go_ret
            exact ⟨rfl, HEND.out _ HB4.out⟩
          · have d4 : X < -1000 := by
              rcases Int.lt_or_le X (-1000) with h9 | h9
              · exact h9
              · exact absurd ⟨h200, rfl, by omega, by omega, by omega, h9⟩ hno
            clear hno
            go_wp2_with fail
            go_ret
            exact ⟨rfl, HEND.out _ HB4.out⟩
    · have hpos : (0 : Int) < (E : Int) := by omega
      clear hno h0
      go_wp2_with fail
      go_ret
      exact ⟨rfl, HEND.out _ HB4.out⟩
  · rw [decide_eq_false h200] at HLI
    go_wp2_with fail
    refine HLI.out.mono ?_
    rintro e w3 ⟨rfl, hb3⟩
    have HB3 := Hid.mk' (HB2.out.trans (hb3.mono HB2.out.size))
    clear hb3 HLI HB2 c0 c1 c2 c3
    go_wp2_with fail
    go_ret
    exact ⟨rfl, HEND.out _ HB3.out⟩

end Go.Proofs.YtpdenfjncpfogaaDoor

/- A fraction's box in the making: laid ahead of the calls that reckon what it holds, between them, or behind. -/
namespace Go.Proofs.YtpdenfjncpfogaaDoor
open Go.RowKit

structure NBx (W0 W : World) (B : Nat) : Prop where
  box : RBox W B false none 0 0 none 0 0 0 0
  hB : W0.heap.size ≤ B
theorem NBx.later {W0 W W' : World} {B : Nat} (h : NBx W0 W B) (hb : Below W.heap.size W W') : NBx W0 W' B := ⟨h.box.later hb, h.hB⟩
theorem nbx_new {W0 W : World} (h : Below W0.heap.size W0 W) : NBx W0 (W.alloc (.cells #[.bool false, .slice none 0 0, .slice none 0 0] 31)) W.heap.size :=
  ⟨RBox.fresh (n := 0) (d := 0) (s := false) ⟨_, _, rfl, big_none _, big_none _⟩, h.size⟩
theorem nbx_of {W0 W W' : World} (h : Below W0.heap.size W0 W) (hb : Below (W.alloc (.cells #[.bool false, .slice none 0 0, .slice none 0 0] 31)).heap.size (W.alloc (.cells #[.bool false, .slice none 0 0, .slice none 0 0] 31)) W') : NBx W0 W' W.heap.size :=
  (nbx_new h).later hb
theorem set3_below {W0 W : World} {B : Nat} (h : Below W0.heap.size W0 W) (hB : W0.heap.size ≤ B) (x y z : Value) : Below W0.heap.size W0 (((W.setCell ⟨B, 0, none⟩ x).setCell ⟨B, 1, none⟩ y).setCell ⟨B, 2, none⟩ z) := ((h.setCell hB _).setCell hB _).setCell hB _
structure DBx (W0 W : World) (B : Nat) (M : Nat) (z : Int) : Prop where
  below : Below W0.heap.size W0 W
  hB : W0.heap.size ≤ B
  box : LB W B M z
theorem dbx_late {W0 W : World} {M : Nat} {z : Int} {s : Bool} {x x' : Option Addr} {l c l' c' : Nat} (h : Below W0.heap.size W0 W) (hr : LR W (.agg #[.bool s, .slice x l c, .slice x' l' c']) M z) : DBx W0 (W.alloc (.cells #[.bool s, .slice x l c, .slice x' l' c'] 31)) W.heap.size M z :=
  ⟨more_below h _, h.size, _, _, _, _, _, _, _, RBox.fresh hr⟩
theorem dbx_soon {W0 W : World} {B M : Nat} {z : Int} {s : Bool} {x x' : Option Addr} {l c l' c' : Nat} (h : Below W0.heap.size W0 W) (hr : LR W (.agg #[.bool s, .slice x l c, .slice x' l' c']) M z) (hn : NBx W0 W B) : DBx W0 (((W.setCell ⟨B, 0, none⟩ (.bool s)).setCell ⟨B, 1, none⟩ (.slice x l c)).setCell ⟨B, 2, none⟩ (.slice x' l' c')) B M z := by
  have h9 := hn.box.put hr
  exact ⟨set3_below h hn.hB _ _ _, hn.hB, ⟨s, x, l, c, x', l', c', h9⟩⟩
end Go.Proofs.YtpdenfjncpfogaaDoor

/- IsingExpansion: the law. -/
namespace Go.Proofs.YtpdenfjncpfogaaDoor
open Go.RowKit

set_option maxRecDepth 100000 in
set_option maxHeartbeats 16000000 in
theorem IsingExpansion_yes (a : Nat → Addr) (n m L : Nat) (ev : Value) (p q : Nat → Int) (X : Int) (d : Nat) (w : World) (hE : Errs w a) (hG : EdAt w ev m p q) (hm : m ≤ maxLen) (hL : L = m + 1) (h0 : syE (n : Int) m p q = 0) (hd : 0 < d) (hd1 : d ≤ 1000) (hX0 : -1000 ≤ X) (hX1 : X ≤ 1000) :
    Calls Tryd.prog 4 #[.agg #[.int .i64 (n : Int), ev], .agg #[.int .i64 X, .int .i64 (d : Int)]] w fun e w' => e = .returned (.bool true) ∧ Below w.heap.size w w' := by
  obtain ⟨ad, cap, rfl, -⟩ := id hG
  obtain ⟨w1, hw1⟩ : ∃ w1, w1 = (w.alloc (.cells #[.int .i64 (n : Int), .slice ad m cap] 46)).alloc (.cells #[.int .i64 X, .int .i64 (d : Int)] 24) := ⟨_, rfl⟩
  have hb1 : Below w.heap.size w w1 := by rw [hw1]; exact ((Below.refl _ _).alloc (Nat.le_refl _) _).alloc (by simp) _
  have hc0 : w1.cell? ⟨w.heap.size, 0, none⟩ = some (.int .i64 (n : Int)) := by rw [hw1, World.cell?_alloc_lt _ _ ⟨w.heap.size, 0, none⟩ (by simp), World.cell?_alloc_at _ _ _ _ rfl]; rfl
  have hc1 : w1.cell? ⟨w.heap.size, 1, none⟩ = some (.slice ad m cap) := by rw [hw1, World.cell?_alloc_lt _ _ ⟨w.heap.size, 1, none⟩ (by simp), World.cell?_alloc_at _ _ _ _ rfl]; rfl
  have hc2 : w1.cell? ⟨w.heap.size + 1, 0, none⟩ = some (.int .i64 X) := by rw [hw1, World.cell?_alloc_at _ _ _ _ (by simp)]; rfl
  have hc3 : w1.cell? ⟨w.heap.size + 1, 1, none⟩ = some (.int .i64 (d : Int)) := by rw [hw1, World.cell?_alloc_at _ _ _ _ (by simp)]; rfl
  have HC : Hid (∀ W, Below w1.heap.size w1 W → W.cell? ⟨w.heap.size, 0, none⟩ = some (.int .i64 (n : Int)) ∧ W.cell? ⟨w.heap.size, 1, none⟩ = some (.slice ad m cap) ∧ W.cell? ⟨w.heap.size + 1, 0, none⟩ = some (.int .i64 X) ∧ W.cell? ⟨w.heap.size + 1, 1, none⟩ = some (.int .i64 (d : Int))) := fun W hb => ⟨by rw [hb.cell (cell_lt hc0)]; exact hc0, by rw [hb.cell (cell_lt hc1)]; exact hc1, by rw [hb.cell (cell_lt hc2)]; exact hc2, by rw [hb.cell (cell_lt hc3)]; exact hc3⟩
  have HE : Hid (∀ W, Below w1.heap.size w1 W → Errs W a) := fun W hb => (hE.below hb1).below hb
  have HG : Hid (∀ W, Below w1.heap.size w1 W → EdAt W (.slice ad m cap) m p q) := fun W hb => (hG.later hb1).later hb
  have HW1 := Hid.mk' hw1
  have HEND : Hid (∀ W, Below w1.heap.size w1 W → Below w.heap.size w W) := fun W hb => hb1.trans (hb.mono hb1.size)
  have HPE := Hid.mk' (bond_any a w1 (hE.below hb1))
  have HM := Hid.mk' hm
  obtain ⟨hN0, hN1, hm2, hbd⟩ := syE_zero h0
  have hn : n ≤ 14 := by omega
  have hXA : X.natAbs ≤ 1000 := by omega
  have HCG : Hid (∀ W v, EdAt W v m p q → EdAt W v m (fun i => ((nP p i : Nat) : Int)) (fun i => ((nP q i : Nat) : Int))) := fun W v h => h.congr fun i hi => ⟨nP_cast (hbd i hi).1, nP_cast (hbd i hi).2.2.1⟩
  have HPQ : Hid (∀ i, i < m → nP p i < n ∧ nP q i < n ∧ nP p i ≠ nP q i) := fun i hi => by have := hbd i hi; unfold nP; omega
  have HSY : Hid (∀ W, Below w1.heap.size w1 W → Calls Tryd.prog 17 #[.agg #[.int .i64 n, .slice ad m cap]] W fun e w' => ∃ v, e = .returned (.agg #[.int .i64 n, v]) ∧ EdAt w' v m p q ∧ Below W.heap.size W w') := fun W hb => system_any n m _ p q W (HG.out _ hb) (by omega)
  have HST : Hid (∀ W v, Below w1.heap.size w1 W → EdAt W v m p q → Calls Tryd.prog 16 #[.agg #[.int .i64 n, v]] W fun e w' => ∃ g, e = .returned (.tuple #[.slice (some ⟨g, 0, none⟩) L L, .nilIface]) ∧ Fills W w' g L (fun k => ((stK (nP p) (nP q) n m k : Nat) : Int))) := fun W v hb hv => by rw [hL]; exact States_ok a n m v (nP p) (nP q) W (HE.out _ hb) (HCG.out _ _ hv) hn hm2 HPQ.out
  have HEV : Hid (∀ W v, Below w1.heap.size w1 W → EdAt W v m p q → Calls Tryd.prog 18 #[.agg #[.int .i64 n, v]] W fun e w' => ∃ g, e = .returned (.tuple #[.slice (some ⟨g, 0, none⟩) L L, .nilIface]) ∧ Fills W w' g L (fun k => ((evC (nP p) (nP q) m k 0 : Nat) : Int))) := fun W v hb hv => by rw [hL]; exact Even_ok a n m v (nP p) (nP q) W (HE.out _ hb) (HCG.out _ _ hv) hn hm2 HPQ.out
  have HLAW := Hid.mk' (vdw_law HPQ.out X d)
  have hcS : ∀ k, stK (nP p) (nP q) n m k ≤ 1048576 := fun k => Nat.le_trans (stK_le _ _ _ _ _) (Nat.le_trans (Nat.pow_le_pow_right (by decide) hn) (by decide))
  have hcE : ∀ k, evC (nP p) (nP q) m k 0 ≤ 2 ^ 30 := fun k => Nat.le_trans (evC_le _ _ _ _ _) (Nat.pow_le_pow_right (by decide) hm2)
  generalize hA : (fun k => stK (nP p) (nP q) n m k) = A at *
  generalize hB : (fun k => evC (nP p) (nP q) m k 0) = B at *
  have eA : ∀ k, stK (nP p) (nP q) n m k = A k := fun k => by rw [← hA]
  have eB : ∀ k, evC (nP p) (nP q) m k 0 = B k := fun k => by rw [← hB]
  have eA' : stK (nP p) (nP q) n m = A := hA
  simp only [eA] at HST hcS
  simp only [eB] at HEV hcE
  rw [eA'] at HLAW
  clear hA hB eA eB eA' HCG HPQ hbd hN0 hN1
  have HTI := Hid.mk' (tiny_any n ad m cap HM.out)
  have HGE : Hid (∀ W, Below w1.heap.size w1 W → Calls Tryd.prog 15 #[.agg #[.int .i64 n, .slice ad m cap]] W fun e w' => e = .returned (.int .i64 0) ∧ Below W.heap.size W w') := fun W hb => by
    have h9 := SystemError_any n m _ p q W (HG.out _ hb) (by omega)
    rw [h0] at h9
    exact h9
  have hm30 : m ≤ 30 := hm2
  have HS1 : Hid (Sml d X) := by have := d_sml (j := 1) (z := X) hd hd1 (by decide) (Nat.le_trans hXA (by decide)); rwa [Nat.pow_one] at this
  have HS2 : Hid (Sml d ((d : Int) - X)) := by have := d_sml (j := 1) (z := (d : Int) - X) hd hd1 (by decide) (Nat.le_trans (show ((d : Int) - X).natAbs ≤ 2000 by omega) (by decide)); rwa [Nat.pow_one] at this
  have HS3 : Hid (Sml d (X + (d : Int))) := by have := d_sml (j := 1) (z := X + (d : Int)) hd hd1 (by decide) (Nat.le_trans (show (X + (d : Int)).natAbs ≤ 2000 by omega) (by decide)); rwa [Nat.pow_one] at this
  have HS0 : Hid (Sml 1 1) := ⟨by decide, by decide, by decide⟩
  have HOF : Hid (∀ W, Calls Tryd.prog 7 #[.agg #[.int .i64 X, .int .i64 (d : Int)]] W fun e w' => ∃ r, e = .returned r ∧ LR w' r d X ∧ Below W.heap.size W w') := fun W => OfFrac_to X d d X W (by omega) (by omega) hd (by omega) hd rfl
  have HWO : Hid (∀ W u v, NumsAt W u L (fun k => ((A k : Nat) : Int)) → LR W v d X → Calls Tryd.prog 10 #[u, v, .bool false] W fun e w' => ∃ r, e = .returned r ∧ LR w' r (d ^ L) (hoN A X d L L) ∧ Below W.heap.size W w') := fun W u v hu hv => by
    have h9 := WorthOf_any v u d L X A false W hu hv hd hd1 hXA (by omega) hcS
    exact h9
  have HR1 : Hid (∀ W, Calls Tryd.prog 20 #[.int .i64 1, .int .i64 1] W fun e w' => ∃ r, e = .returned r ∧ LR w' r 1 1 ∧ Below W.heap.size W w') := fun W => RatioOf_to 1 1 1 1 W (by decide) (by decide) (by decide) (by decide) (by decide) rfl
  have HR0 : Hid (∀ W, Calls Tryd.prog 20 #[.int .i64 0, .int .i64 1] W fun e w' => ∃ r, e = .returned r ∧ LR w' r (d ^ m) (xS X d m B 0) ∧ Below W.heap.size W w') := fun W => RatioOf_to 0 1 (d ^ m) _ W (by decide) (by decide) (by decide) (by decide) (Nat.pow_pos hd) (by simp [xS, sI])
  have HR2 : Hid (∀ W, Calls Tryd.prog 20 #[.int .i64 2, .int .i64 1] W fun e w' => ∃ r, e = .returned r ∧ LR w' r 1 2 ∧ Below W.heap.size W w') := fun W => RatioOf_to 2 1 1 2 W (by decide) (by decide) (by decide) (by decide) (by decide) rfl
  have HMI : Hid (∀ W u v, LR W u 1 1 → LR W v d X → Calls Tryd.prog 19 #[u, v] W fun e w' => ∃ r, e = .returned r ∧ LR w' r d ((d : Int) - X) ∧ Below W.heap.size W w') := fun W u v hu hv => RMinus_to u v 1 d d 1 X _ W hu hv HS0.out HS1.out hd (by simp; grind)
  have HPL : Hid (∀ W u v, LR W u 1 1 → LR W v d X → Calls Tryd.prog 21 #[u, v] W fun e w' => ∃ r, e = .returned r ∧ LR w' r d (X + (d : Int)) ∧ Below W.heap.size W w') := fun W u v hu hv => RPlus_to u v 1 d d 1 X _ W hu hv HS0.out HS1.out hd (by simp; grind)
  have HPW : Hid (∀ W u k, k < L → LR W u d ((d : Int) - X) → Calls Tryd.prog 23 #[u, .int .i64 (k : Nat)] W fun e w' => ∃ r, e = .returned r ∧ LR w' r (d ^ k) (((d : Int) - X) ^ k) ∧ Below W.heap.size W w') := fun W u k hk hu => PowerOf_any u d k _ W hu hd hd1 (by omega) (by omega)
  have HPV : Hid (∀ W u k, k < L → LR W u d (X + (d : Int)) → Calls Tryd.prog 23 #[u, .int .i64 ((L : Int) - 1 - ((k : Nat) : Int))] W fun e w' => ∃ r, e = .returned r ∧ LR w' r (d ^ (m - k)) ((X + (d : Int)) ^ (m - k)) ∧ Below W.heap.size W w') := fun W u k hk hu => by
    rw [show (L : Int) - 1 - (k : Int) = ((m - k : Nat) : Int) by omega]
    exact PowerOf_any u d (m - k) _ W hu hd hd1 (by omega) (by omega)
  have HP2 : Hid (∀ W u k, k ≤ 30 → LR W u 1 2 → Calls Tryd.prog 23 #[u, .int .i64 (k : Nat)] W fun e w' => ∃ r, e = .returned r ∧ LR w' r (1 ^ k) (2 ^ k) ∧ Below W.heap.size W w') := fun W u k hk hu => PowerOf_any u 1 k 2 W hu (by decide) (by decide) (by decide) hk
  have HT1 : Hid (∀ W u v k, k < L → LR W u (d ^ k) (((d : Int) - X) ^ k) → LR W v (d ^ (m - k)) ((X + (d : Int)) ^ (m - k)) → Calls Tryd.prog 22 #[u, v] W fun e w' => ∃ r, e = .returned r ∧ LR w' r (d ^ m) (xT X d m k) ∧ Below W.heap.size W w') := fun W u v k hk hu hv => RTimes_to u v (d ^ k) (d ^ (m - k)) (d ^ m) _ _ _ W hu hv (pow_sml hd hd1 (by omega) (by omega)) (pow_sml hd hd1 (by omega) (by omega)) (Nat.pow_pos hd) (by
    rw [← Int.natCast_mul, ← Nat.pow_add, show k + (m - k) = m by omega]
    rfl)
  have HRB : Hid (∀ W k, Calls Tryd.prog 20 #[.int .i64 ((B k : Nat) : Int), .int .i64 1] W fun e w' => ∃ r, e = .returned r ∧ LR w' r 1 ((B k : Nat) : Int) ∧ Below W.heap.size W w') := fun W k => RatioOf_to _ 1 1 _ W (by have := hcE k; omega) (by have := hcE k; omega) (by decide) (by decide) (by decide) rfl
  have HT2 : Hid (∀ W u v k, k < L → LR W u 1 ((B k : Nat) : Int) → LR W v (d ^ m) (xT X d m k) → Calls Tryd.prog 22 #[u, v] W fun e w' => ∃ r, e = .returned r ∧ LR w' r (d ^ m) (((B k : Nat) : Int) * xT X d m k) ∧ Below W.heap.size W w') := fun W u v k hk hu hv => RTimes_to u v 1 (d ^ m) (d ^ m) _ _ _ W hu hv ⟨by decide, by decide, by rw [Int.natAbs_natCast]; exact Nat.lt_of_le_of_lt (hcE k) (by decide)⟩ (xT_sml hXA hd hd1 hm30 (by omega)) (Nat.pow_pos hd) (by simp)
  have HPS : Hid (∀ W u v k, k < L → LR W u (d ^ m) (xS X d m B k) → LR W v (d ^ m) (((B k : Nat) : Int) * xT X d m k) → Calls Tryd.prog 21 #[u, v] W fun e w' => ∃ r, e = .returned r ∧ LR w' r (d ^ m) (xS X d m B (k + 1)) ∧ Below W.heap.size W w') := fun W u v k hk hu hv => RPlus_to u v (d ^ m) (d ^ m) (d ^ m) _ _ _ W hu hv (xS_sml hXA hd hd1 hm30 (by omega) hcE) (bT_sml hXA hd hd1 hm30 (by omega) hcE) (Nat.pow_pos hd) (by
    show _ = (xS X d m B k + ((B k : Nat) : Int) * xT X d m k) * _
    rw [← Int.add_mul, Int.mul_assoc])
  have HTL : Hid (∀ W u v, LR W u (d ^ L) (hoN A X d L L) → LR W v (1 ^ m) (2 ^ m) → Calls Tryd.prog 22 #[u, v] W fun e w' => ∃ r, e = .returned r ∧ LR w' r (d ^ L) (hoN A X d L L * 2 ^ m) ∧ Below W.heap.size W w') := fun W u v hu hv => RTimes_to u v (d ^ L) (1 ^ m) (d ^ L) _ _ _ W hu hv (hoN_sml (fun i => Nat.le_trans (hcS i) (by decide)) hXA hd hd1 (by omega)).1 (two_sml hm30) (Nat.pow_pos hd) (by simp)
  have HTR : Hid (∀ W u v, LR W u (d ^ m) (xS X d m B L) → LR W v (1 ^ n) (2 ^ n) → Calls Tryd.prog 22 #[u, v] W fun e w' => ∃ r, e = .returned r ∧ LR w' r (d ^ m) (xS X d m B L * 2 ^ n) ∧ Below W.heap.size W w') := fun W u v hu hv => RTimes_to u v (d ^ m) (1 ^ n) (d ^ m) _ _ _ W hu hv (xS_sml hXA hd hd1 hm30 (by omega) hcE) (two_sml (by omega)) (Nat.pow_pos hd) (by simp)
  have HCM : Hid (∀ W u v, LR W u (d ^ L) (hoN A X d L L * 2 ^ m) → LR W v (d ^ m) (xS X d m B L * 2 ^ n) → Calls Tryd.prog 24 #[u, v] W fun e w' => e = .returned (.int .i64 0) ∧ Below W.heap.size W w') := fun W u v hu hv => by
    subst hL
    exact RCmp_same u v _ _ _ _ W hu hv (xL_sml hXA hd hd1 hm30 (fun i => Nat.le_trans (hcS i) (by decide))) (xR_sml hXA hd hd1 hm30 hn hcE) HLAW.out
  have HCE := Hid.mk' hcE
  have hnI : (n : Int) ≤ 14 := by omega
  have hmI : (m : Int) ≤ 30 := by omega
  have hLI : (L : Int) ≤ 31 := by omega
  have hL0 : 0 < L := by omega
  have hdI : (1 : Int) ≤ (d : Int) := by omega
  have hdJ : (d : Int) ≤ 1000 := by omega
  have h200 : m ≤ 200 := by omega
  have HN30 : Hid (n ≤ 30) := by show n ≤ 30; omega
  clear hE hG hb1 hw1 hc0 hc1 hc2 hc3 hm hcS hcE HS0 HS1 HS2 HS3 HLAW hXA h0 hm2 hn hd hd1 hL
  generalize hoN A X d L L * 2 ^ m = ZL at *
  generalize xS X d m B L * 2 ^ n = ZR at *
  go_enter Tryd.func4, Tryd.ntmps4
  go_upto_region 1 with fail
  rw [← HW1.out]
  go_wp2_with fail
  refine HPE.out.mono ?_
  rintro e w2 ⟨rfl, hb2⟩
  have HB2 := Hid.mk' hb2
  obtain ⟨c0, c1, c2, c3⟩ := HC.out _ hb2
  clear hb2 HPE
  have HLI := Hid.mk' (HTI.out w2)
  rw [decide_eq_true h200] at HLI
  clear HTI
  go_wp2_with fail
  refine HLI.out.mono ?_
  rintro e w3 ⟨rfl, hb3⟩
  have HB3 := Hid.mk' (below_chain HB2.out hb3)
  clear hb3 HLI HB2 c0 c1 c2 c3
  obtain ⟨c0, c1, c2, c3⟩ := HC.out _ HB3.out
  go_wp2_with fail
  refine (HGE.out _ HB3.out).mono ?_
  rintro e w4 ⟨rfl, hb4⟩
  have HB4 := Hid.mk' (below_chain HB3.out hb4)
  clear hb4 HGE HB3 c0 c1 c2 c3
  obtain ⟨c0, c1, c2, c3⟩ := HC.out _ HB4.out
  go_wp2_with fail
  refine (HSY.out _ HB4.out).mono ?_
  rintro e w5 ⟨v5, rfl, h5, hb5⟩
  have HB5 := Hid.mk' (below_chain HB4.out hb5)
  have HAC := Hid.mk' (HST.out w5 v5 HB5.out h5)
  obtain ⟨a5, k5, rfl, -⟩ := h5
  clear hb5 HST c0 c1 c2 c3 HB4
  go_wp2_with fail
  refine HAC.out.mono ?_
  rintro e w6 ⟨g6, rfl, h6⟩
  have HB6 := Hid.mk' (below_chain HB5.out h6.below)
  have HN6 := Hid.mk' (numsL hL0 h6)
  clear h6 HAC HB5
  obtain ⟨c0, c1, c2, c3⟩ := HC.out _ HB6.out
  go_wp2_with fail
  refine (HSY.out _ HB6.out).mono ?_
  rintro e w7 ⟨v7, rfl, h7, hb7⟩
  have HB7 := Hid.mk' (below_chain HB6.out hb7)
  have HN7 := Hid.mk' (HN6.out.later hb7)
  have HAC := Hid.mk' (HEV.out w7 v7 HB7.out h7)
  obtain ⟨a7, k7, rfl, -⟩ := h7
  clear hb7 HEV c0 c1 c2 c3 HB6 HN6 HSY
  go_wp2_with fail
  refine HAC.out.mono ?_
  rintro e w8 ⟨g8, rfl, h8⟩
  have HB8 := Hid.mk' (below_chain HB7.out h8.below)
  have HN8 := Hid.mk' (HN7.out.later h8.below)
  have HM8 := Hid.mk' (numsL hL0 h8)
  clear h8 HAC HB7 HN7
  obtain ⟨c0, c1, c2, c3⟩ := HC.out _ HB8.out
  go_wp2_with fail
  refine (HOF.out _).mono ?_
  rintro e w9 ⟨r9, rfl, hr9, hb9⟩
  have HB9 := Hid.mk' (below_chain HB8.out hb9)
  have HN9 := Hid.mk' (HN8.out.later hb9)
  have HM9 := Hid.mk' (HM8.out.later hb9)
  clear HB8 HN8 HM8 hb9 c0 c1 c2 c3 HOF

  have HBw9 := HB9
  clear HB9
  obtain ⟨sy, xy, ly, cy, yy, my, ky, rfl⟩ := hr9.sl
  obtain ⟨Wy, hWy⟩ : ∃ W, W = w9.alloc (.cells #[.bool sy, .slice xy ly cy, .slice yy my ky] 31) := ⟨_, rfl⟩
  have hbx : Below w9.heap.size w9 Wy := by rw [hWy]; exact (Below.refl _ _).alloc (Nat.le_refl _) _
  have HXy : Hid (RBox Wy w9.heap.size sy xy ly cy yy my ky (lowN d X) (lowD d X)) := by show RBox _ _ _ _ _ _ _ _ _ _ _; rw [hWy]; exact RBox.fresh hr9
  have HBy := Hid.mk' (below_chain HBw9.out hbx)

  have HNy := Hid.mk' (HN9.out.later hbx)
  have HMy := Hid.mk' (HM9.out.later hbx)
  have HWy := Hid.mk' hWy
  clear hbx hWy hr9 HBw9 HN9 HM9
  go_wp2_with fail
  rw [← HWy.out]
  have u0 := HXy.out.c0
  have u1 := HXy.out.c1
  have u2 := HXy.out.c2
  go_wp2_with fail
  refine (HWO.out _ _ _ HNy.out HXy.out.rat).mono ?_
  rintro e w10 ⟨r10, rfl, hr10, hb⟩
  have HBw10 := Hid.mk' (below_chain HBy.out hb)
  have HX10 := Hid.mk' (HXy.out.later hb)
  have HM10 := Hid.mk' (HMy.out.later hb)
  clear hb HBy HXy HMy HWO HNy u0 u1 u2
  have HS10 := Hid.mk' HBw10.out.size
  obtain ⟨sl, xl, ll, cl, yl, ml, kl, rfl⟩ := hr10.sl
  obtain ⟨Wl, hWl⟩ : ∃ W, W = w10.alloc (.cells #[.bool sl, .slice xl ll cl, .slice yl ml kl] 31) := ⟨_, rfl⟩
  have hbx : Below w10.heap.size w10 Wl := by rw [hWl]; exact (Below.refl _ _).alloc (Nat.le_refl _) _
  have HXl : Hid (RBox Wl w10.heap.size sl xl ll cl yl ml kl (lowN (d ^ L) (hoN A X d L L)) (lowD (d ^ L) (hoN A X d L L))) := by show RBox _ _ _ _ _ _ _ _ _ _ _; rw [hWl]; exact RBox.fresh hr10
  have HBl := Hid.mk' (below_chain HBw10.out hbx)

  have HXy := Hid.mk' (HX10.out.later hbx)
  have HMy := Hid.mk' (HM10.out.later hbx)
  have HWl := Hid.mk' hWl
  clear hbx hWl hr10 HBw10 HX10 HM10
  go_upto_region 10 with fail
  rw [← HWl.out]
  clear HWl HWy
  have HKS : Hid (∀ W, Below Wl.heap.size Wl W → W.cell? ⟨w9.heap.size, 0, none⟩ = some (.bool sy) ∧ W.cell? ⟨w9.heap.size, 1, none⟩ = some (.slice xy ly cy) ∧ W.cell? ⟨w9.heap.size, 2, none⟩ = some (.slice yy my ky)) := fun W hb => ⟨(HXy.out.later hb).c0, (HXy.out.later hb).c1, (HXy.out.later hb).c2⟩
  have HCA : Hid (∀ (W : World), Below Wl.heap.size Wl W → Calls Tryd.prog 20 #[.int .i64 1, .int .i64 1] W fun e w' => ∃ r, e = .returned r ∧ LR w' r 1 1 ∧ Below W.heap.size W w') := fun W _ => HR1.out W
  have HCB : Hid (∀ (W : World), Below Wl.heap.size Wl W → ∀ {r : Value}, LR W r 1 1 → Calls Tryd.prog 19 #[r, .agg #[.bool sy, .slice xy ly cy, .slice yy my ky]] W fun e w' => ∃ r', e = .returned r' ∧ LR w' r' d ((d : Int) - X) ∧ Below W.heap.size W w') := fun W hb r hr => HMI.out W r _ hr (HXy.out.later hb).rat
  have hcur0 : Below Wl.heap.size Wl Wl := Below.refl _ _
  have hcur : Below Wl.heap.size Wl Wl.drew := (Below.refl _ _).drew
  have hcurA : ∀ X, Below Wl.heap.size Wl (Wl.alloc X).drew := fun X => (new_below _ _).drew
  go_cut [12] from 82 to 84 (fun s' wx => ∃ Bs : Nat, s' = .pointer (some ⟨Bs, 0, none⟩) ∧ Hid (DBx Wl wx Bs d ((d : Int) - X)))
  case first =>
    go_region_held3 (fun W => W.cell? ⟨w9.heap.size, 0, none⟩ = some (.bool sy) ∧ W.cell? ⟨w9.heap.size, 1, none⟩ = some (.slice xy ly cy) ∧ W.cell? ⟨w9.heap.size, 2, none⟩ = some (.slice yy my ky))
      (first | exact HKS.out _ hcur0 | exact HKS.out _ hcur | exact HKS.out _ (hcurA _) | (refine HKS.out _ ?_; assumption) | (refine HKS.out _ (more_below ?_ _); assumption) | (refine HKS.out _ (set3_below ?_ NB.hB _ _ _); assumption))
      (first
        | (go_at_call 19; (have hz7 := hbw1; clear hz7); refine (HCB.out _ ?hcw (HX1.out _ ?hpHX1)).mono ?_; (case hcw => first | exact hcur0 | exact hcur | exact hcurA _ | exact hbw1 | exact more_below hbw1 _); (case hpHX1 => first | exact Below.refl _ _ | exact new_below _ _ | assumption | (refine more_below ?_ _; assumption)); rintro e w122 ⟨rv2, rfl, hrv2, hb2⟩; obtain ⟨sg2, xg2, lg2, cg2, xh2, lh2, ch2, rfl⟩ := hrv2.sl; (first | (have hbw2 := below_chain hbw1 hb2; (try have NB := NB.later hb2)) | (have hbw2 := below_chain (more_below hbw1 _) hb2; have NB := nbx_of hbw1 hb2)); (first | have hq12 : Below w121.heap.size w121 w122 := hb2 | have hq12 : Below w121.heap.size w121 w122 := below_chain (new_below _ _) hb2); (try (have y0 := NB.box.c0; have y1 := NB.box.c1; have y2 := NB.box.c2; have y3 := NB.box.fz 0 (by decide); have y4 := NB.box.fz 1 (by decide); have y5 := NB.box.fz 2 (by decide))); have HRV := Hid.mk' hrv2; clear hrv2)
        | (go_at_call 20; refine (HCA.out _ ?hcw).mono ?_; (case hcw => first | exact hcur0 | exact hcur | exact hcurA _); rintro e w121 ⟨rv1, rfl, hrv1, hb1⟩; obtain ⟨sg1, xg1, lg1, cg1, xh1, lh1, ch1, rfl⟩ := hrv1.sl; (first | (have hbw1 := below_chain hcur hb1) | (have hbw1 := below_chain (hcurA _) hb1; have NB := nbx_of hcur0 (below_chain ((Below.refl _ _).drew) hb1))); have HX1 := Hid.mk' (fun (W : World) (hb : Below w121.heap.size w121 W) => hrv1.later hb); clear hrv1))
    all_goals
      go_wp2_with fail
      go_meet
      first | exact ⟨_, rfl, dbx_late hbw2 HRV.out⟩ | exact ⟨_, rfl, dbx_soon hbw2 HRV.out NB⟩
  case rest =>
  obtain ⟨Bs, rfl, HRB⟩ := hcut
  obtain ⟨Ws, hWs⟩ : ∃ W, W = wc := ⟨_, rfl⟩
  rw [← hWs] at HRB ⊢
  clear hWs hcur0 hcur hcurA HKS
  have hbx := HRB.out.below
  obtain ⟨ss, xs, ls, cs, ys, ms, ks, hbox⟩ := HRB.out.box
  have HXs := Hid.mk' hbox
  have HBs := Hid.mk' (below_chain HBl.out hbx)
  have HXy := Hid.mk' (HXy.out.later hbx)
  have HMy := Hid.mk' (HMy.out.later hbx)
  have HXl := Hid.mk' (HXl.out.later hbx)
  clear hbx hbox HRB HBl
  clear HCA HCB
  go_upto_region 11 with fail
  have HKS : Hid (∀ W, Below Ws.heap.size Ws W → W.cell? ⟨w9.heap.size, 0, none⟩ = some (.bool sy) ∧ W.cell? ⟨w9.heap.size, 1, none⟩ = some (.slice xy ly cy) ∧ W.cell? ⟨w9.heap.size, 2, none⟩ = some (.slice yy my ky)) := fun W hb => ⟨(HXy.out.later hb).c0, (HXy.out.later hb).c1, (HXy.out.later hb).c2⟩
  have HCA : Hid (∀ (W : World), Below Ws.heap.size Ws W → Calls Tryd.prog 20 #[.int .i64 1, .int .i64 1] W fun e w' => ∃ r, e = .returned r ∧ LR w' r 1 1 ∧ Below W.heap.size W w') := fun W _ => HR1.out W
  have HCB : Hid (∀ (W : World), Below Ws.heap.size Ws W → ∀ {r : Value}, LR W r 1 1 → Calls Tryd.prog 21 #[r, .agg #[.bool sy, .slice xy ly cy, .slice yy my ky]] W fun e w' => ∃ r', e = .returned r' ∧ LR w' r' d (X + (d : Int)) ∧ Below W.heap.size W w') := fun W hb r hr => HPL.out W r _ hr (HXy.out.later hb).rat
  have hcur0 : Below Ws.heap.size Ws Ws := Below.refl _ _
  have hcur : Below Ws.heap.size Ws Ws.drew := (Below.refl _ _).drew
  have hcurA : ∀ X, Below Ws.heap.size Ws (Ws.alloc X).drew := fun X => (new_below _ _).drew
  go_cut [13] from 85 to 87 (fun s' wx => ∃ Bs : Nat, s' = .pointer (some ⟨Bs, 0, none⟩) ∧ Hid (DBx Ws wx Bs d (X + (d : Int))))
  case first =>
    go_region_held3 (fun W => W.cell? ⟨w9.heap.size, 0, none⟩ = some (.bool sy) ∧ W.cell? ⟨w9.heap.size, 1, none⟩ = some (.slice xy ly cy) ∧ W.cell? ⟨w9.heap.size, 2, none⟩ = some (.slice yy my ky))
      (first | exact HKS.out _ hcur0 | exact HKS.out _ hcur | exact HKS.out _ (hcurA _) | (refine HKS.out _ ?_; assumption) | (refine HKS.out _ (more_below ?_ _); assumption) | (refine HKS.out _ (set3_below ?_ NB.hB _ _ _); assumption))
      (first
        | (go_at_call 21; (have hz7 := hbw1; clear hz7); refine (HCB.out _ ?hcw (HX1.out _ ?hpHX1)).mono ?_; (case hcw => first | exact hcur0 | exact hcur | exact hcurA _ | exact hbw1 | exact more_below hbw1 _); (case hpHX1 => first | exact Below.refl _ _ | exact new_below _ _ | assumption | (refine more_below ?_ _; assumption)); rintro e w132 ⟨rv2, rfl, hrv2, hb2⟩; obtain ⟨sg2, xg2, lg2, cg2, xh2, lh2, ch2, rfl⟩ := hrv2.sl; (first | (have hbw2 := below_chain hbw1 hb2; (try have NB := NB.later hb2)) | (have hbw2 := below_chain (more_below hbw1 _) hb2; have NB := nbx_of hbw1 hb2)); (first | have hq12 : Below w131.heap.size w131 w132 := hb2 | have hq12 : Below w131.heap.size w131 w132 := below_chain (new_below _ _) hb2); (try (have y0 := NB.box.c0; have y1 := NB.box.c1; have y2 := NB.box.c2; have y3 := NB.box.fz 0 (by decide); have y4 := NB.box.fz 1 (by decide); have y5 := NB.box.fz 2 (by decide))); have HRV := Hid.mk' hrv2; clear hrv2)
        | (go_at_call 20; refine (HCA.out _ ?hcw).mono ?_; (case hcw => first | exact hcur0 | exact hcur | exact hcurA _); rintro e w131 ⟨rv1, rfl, hrv1, hb1⟩; obtain ⟨sg1, xg1, lg1, cg1, xh1, lh1, ch1, rfl⟩ := hrv1.sl; (first | (have hbw1 := below_chain hcur hb1) | (have hbw1 := below_chain (hcurA _) hb1; have NB := nbx_of hcur0 (below_chain ((Below.refl _ _).drew) hb1))); have HX1 := Hid.mk' (fun (W : World) (hb : Below w131.heap.size w131 W) => hrv1.later hb); clear hrv1))
    all_goals
      go_wp2_with fail
      go_meet
      first | exact ⟨_, rfl, dbx_late hbw2 HRV.out⟩ | exact ⟨_, rfl, dbx_soon hbw2 HRV.out NB⟩
  case rest =>
  obtain ⟨Br, rfl, HRB⟩ := hcut
  obtain ⟨Wr, hWr⟩ : ∃ W, W = wc := ⟨_, rfl⟩
  rw [← hWr] at HRB ⊢
  clear hWr hcur0 hcur hcurA HKS
  have hbx := HRB.out.below
  obtain ⟨sr, xr, lr, cr, yr, mr, kr, hbox⟩ := HRB.out.box
  have HXr := Hid.mk' hbox
  have HBr := Hid.mk' (below_chain HBs.out hbx)
  have HMy := Hid.mk' (HMy.out.later hbx)
  have HXl := Hid.mk' (HXl.out.later hbx)
  have HXs := Hid.mk' (HXs.out.later hbx)
  clear hbx hbox HRB HBs
  clear HCA HCB HR1 HMI HPL HXy
  go_wp2_with fail
  refine (HR0.out _).mono ?_
  rintro e w15 ⟨r15, rfl, hr15, hb⟩
  have HBw15 := Hid.mk' (below_chain HBr.out hb)
  have HM15 := Hid.mk' (HMy.out.later hb)
  have HY15 := Hid.mk' (HXl.out.later hb)
  have HZ15 := Hid.mk' (HXs.out.later hb)
  have HQ15 := Hid.mk' (HXr.out.later hb)
  clear hb HBr HMy HXl HXs HXr HR0
  have HS15 := Hid.mk' HBw15.out.size
  have HLR : Hid (w10.heap.size < w15.heap.size) := by
    have := cell_lt HY15.out.c0
    exact this
  obtain ⟨s15, x15, l15, c15, y15, m15, k15, rfl⟩ := hr15.sl
  have HL1 : Hid (LB (w15.alloc (.cells #[.bool s15, .slice x15 l15 c15, .slice y15 m15 k15] 31)) w15.heap.size (d ^ m) (xS X d m B 0)) := ⟨_, _, _, _, _, _, _, RBox.fresh hr15⟩
  have HX1 : Hid (Below w15.heap.size w15 (w15.alloc (.cells #[.bool s15, .slice x15 l15 c15, .slice y15 m15 k15] 31))) := (Below.refl _ _).alloc (Nat.le_refl _) _
  clear hr15
  go_wp2_with fail
  generalize w15.alloc (.cells #[.bool s15, .slice x15 l15 c15, .slice y15 m15 k15] 31) = W2 at HL1 HX1 ⊢
  go_loopw [15] (fun iv wr => ∃ j : Nat, j ≤ L ∧ iv = .int .i64 j ∧ Hid (LB wr w15.heap.size (d ^ m) (xS X d m B j)) ∧ Hid (Below w15.heap.size w15 wr)) (fun iv _ => L - (intOf iv).toNat)
  case atStart => exact ⟨0, Nat.zero_le _, rfl, HL1, HX1⟩
  case round =>
    clear HL1 HX1
    obtain ⟨j, hj, rfl, HL, HX⟩ := hrel
    have hj0 : (0 : Int) ≤ (j : Int) := by omega
    obtain ⟨sR, xR, lR, cR, yR, mR, kR, hR⟩ := HL.out
    rcases Nat.lt_or_ge j L with h1 | h1
    · have hjI : (j : Int) < (L : Int) := by omega
      have HRR := Hid.mk' hR
      have HXs := Hid.mk' (HZ15.out.later HX.out)
      have HXr := Hid.mk' (HQ15.out.later HX.out)
      have HNB := Hid.mk' (HM15.out.later HX.out)
      clear hR HL
      go_upto_region 16 with fail
      have HKS : Hid (∀ W, Below wr.heap.size wr W → (W.cell? ⟨Bs, 0, none⟩ = some (.bool ss) ∧ W.cell? ⟨Bs, 1, none⟩ = some (.slice xs ls cs) ∧ W.cell? ⟨Bs, 2, none⟩ = some (.slice ys ms ks)) ∧ (W.cell? ⟨Br, 0, none⟩ = some (.bool sr) ∧ W.cell? ⟨Br, 1, none⟩ = some (.slice xr lr cr) ∧ W.cell? ⟨Br, 2, none⟩ = some (.slice yr mr kr))) := fun W hb => ⟨⟨(HXs.out.later hb).c0, (HXs.out.later hb).c1, (HXs.out.later hb).c2⟩, ⟨(HXr.out.later hb).c0, (HXr.out.later hb).c1, (HXr.out.later hb).c2⟩⟩
      have HCA : Hid (∀ (W : World), Below wr.heap.size wr W → Calls Tryd.prog 23 #[.agg #[.bool ss, .slice xs ls cs, .slice ys ms ks], .int .i64 ((j : Nat) : Int)] W fun e w' => ∃ r, e = .returned r ∧ LR w' r (d ^ j) (((d : Int) - X) ^ j) ∧ Below W.heap.size W w') := fun W hb => HPW.out W _ j h1 (HXs.out.later hb).rat
      have HWR : Hid (IntKind.i64.wrap (IntKind.i64.wrap ((L : Int) - 1) - (j : Int)) = (L : Int) - 1 - (j : Int)) := by show _ = _; rw [IntKind.wrap_i64, IntKind.wrap_i64]; omega
      have HCB : Hid (∀ (W : World), Below wr.heap.size wr W → Calls Tryd.prog 23 #[.agg #[.bool sr, .slice xr lr cr, .slice yr mr kr], .int .i64 (IntKind.i64.wrap (IntKind.i64.wrap ((L : Int) - 1) - (j : Int)))] W fun e w' => ∃ r, e = .returned r ∧ LR w' r (d ^ (m - j)) ((X + (d : Int)) ^ (m - j)) ∧ Below W.heap.size W w') := fun W hb => by rw [HWR.out]; exact HPV.out W _ j h1 (HXr.out.later hb).rat
      have HCC : Hid (∀ (W : World), Below wr.heap.size wr W → ∀ {u v : Value}, LR W u (d ^ j) (((d : Int) - X) ^ j) → LR W v (d ^ (m - j)) ((X + (d : Int)) ^ (m - j)) → Calls Tryd.prog 22 #[u, v] W fun e w' => ∃ r, e = .returned r ∧ LR w' r (d ^ m) (xT X d m j) ∧ Below W.heap.size W w') := fun W _ u v hu hv => HT1.out W u v j h1 hu hv
      have hcur0 : Below wr.heap.size wr wr := Below.refl _ _
      have hcur : Below wr.heap.size wr wr.drew := (Below.refl _ _).drew
      have hcurA : ∀ X, Below wr.heap.size wr (wr.alloc X).drew := fun X => (new_below _ _).drew
      go_cut [16] from 95 to 105 (fun s' wx => ∃ Bs : Nat, s' = .pointer (some ⟨Bs, 0, none⟩) ∧ Hid (DBx wr wx Bs (d ^ m) (xT X d m j)))
      case first =>
        go_region_held3 (fun W => (W.cell? ⟨Bs, 0, none⟩ = some (.bool ss) ∧ W.cell? ⟨Bs, 1, none⟩ = some (.slice xs ls cs) ∧ W.cell? ⟨Bs, 2, none⟩ = some (.slice ys ms ks)) ∧ (W.cell? ⟨Br, 0, none⟩ = some (.bool sr) ∧ W.cell? ⟨Br, 1, none⟩ = some (.slice xr lr cr) ∧ W.cell? ⟨Br, 2, none⟩ = some (.slice yr mr kr)))
          (first | exact HKS.out _ hcur0 | exact HKS.out _ hcur | exact HKS.out _ (hcurA _) | (refine HKS.out _ ?_; assumption) | (refine HKS.out _ (more_below ?_ _); assumption) | (refine HKS.out _ (set3_below ?_ NB.hB _ _ _); assumption))
          (first
            | (go_at_call 22; (have hz7 := hbw2; clear hz7); refine (HCC.out _ ?hcw (HX1.out _ ?hpHX1) (HX2.out _ ?hpHX2)).mono ?_; (case hcw => first | exact hcur0 | exact hcur | exact hcurA _ | exact hbw2 | exact more_below hbw2 _); (case hpHX1 => first | exact Below.refl _ _ | exact new_below _ _ | assumption | (refine more_below ?_ _; assumption)); (case hpHX2 => first | exact Below.refl _ _ | exact new_below _ _ | assumption | (refine more_below ?_ _; assumption)); rintro e w163 ⟨rv3, rfl, hrv3, hb3⟩; obtain ⟨sg3, xg3, lg3, cg3, xh3, lh3, ch3, rfl⟩ := hrv3.sl; (first | (have hbw3 := below_chain hbw2 hb3; (try have NB := NB.later hb3)) | (have hbw3 := below_chain (more_below hbw2 _) hb3; have NB := nbx_of hbw2 hb3)); (first | have hq13 := below_chain hq12 hb3 | have hq13 := below_chain (more_below hq12 _) hb3); (first | have hq23 : Below w162.heap.size w162 w163 := hb3 | have hq23 : Below w162.heap.size w162 w163 := below_chain (new_below _ _) hb3); (try (have y0 := NB.box.c0; have y1 := NB.box.c1; have y2 := NB.box.c2; have y3 := NB.box.fz 0 (by decide); have y4 := NB.box.fz 1 (by decide); have y5 := NB.box.fz 2 (by decide))); have HRV := Hid.mk' hrv3; clear hrv3)
            | (go_at_call 23; (have hz7 := hbw1; clear hz7); refine (HCB.out _ ?hcw).mono ?_; (case hcw => first | exact hcur0 | exact hcur | exact hcurA _ | exact hbw1 | exact more_below hbw1 _); rintro e w162 ⟨rv2, rfl, hrv2, hb2⟩; obtain ⟨sg2, xg2, lg2, cg2, xh2, lh2, ch2, rfl⟩ := hrv2.sl; (first | (have hbw2 := below_chain hbw1 hb2; (try have NB := NB.later hb2)) | (have hbw2 := below_chain (more_below hbw1 _) hb2; have NB := nbx_of hbw1 hb2)); (first | have hq12 : Below w161.heap.size w161 w162 := hb2 | have hq12 : Below w161.heap.size w161 w162 := below_chain (new_below _ _) hb2); have HX2 := Hid.mk' (fun (W : World) (hb : Below w162.heap.size w162 W) => hrv2.later hb); clear hrv2)
            | (go_at_call 23; refine (HCA.out _ ?hcw).mono ?_; (case hcw => first | exact hcur0 | exact hcur | exact hcurA _); rintro e w161 ⟨rv1, rfl, hrv1, hb1⟩; obtain ⟨sg1, xg1, lg1, cg1, xh1, lh1, ch1, rfl⟩ := hrv1.sl; (first | (have hbw1 := below_chain hcur hb1) | (have hbw1 := below_chain (hcurA _) hb1; have NB := nbx_of hcur0 (below_chain ((Below.refl _ _).drew) hb1))); have HX1 := Hid.mk' (fun (W : World) (hb : Below w161.heap.size w161 W) => hrv1.later hb); clear hrv1))
        all_goals
          go_wp2_with fail
          go_meet
          first | exact ⟨_, rfl, dbx_late hbw3 HRV.out⟩ | exact ⟨_, rfl, dbx_soon hbw3 HRV.out NB⟩
      case rest =>
      clear HCA HCB HCC HXs HXr HWR
      obtain ⟨Bt, rfl, HRB⟩ := hcut
      obtain ⟨Wt, hWt⟩ : ∃ W, W = wc := ⟨_, rfl⟩
      rw [← hWt] at HRB ⊢
      clear hWt hcur0 hcur hcurA HKS
      have hbx := HRB.out.below
      obtain ⟨st, xt, lt, ct, yt, mt, kt, hbox⟩ := HRB.out.box
      have HXt := Hid.mk' hbox
      have HBt := Hid.mk' (below_chain HX.out hbx)
      have HRRt := Hid.mk' (HRR.out.later hbx)
      have HNBt := Hid.mk' (HNB.out.later hbx)
      clear hbx hbox HRB HX
      clear HRR HNB
      have hcb := HCE.out j
      have hcbI : ((B j : Nat) : Int) ≤ 1073741824 := by omega
      go_upto_region 17 with fail
      have HKS : Hid (∀ W, Below Wt.heap.size Wt W → (W.cell? ⟨w15.heap.size, 0, none⟩ = some (.bool sR) ∧ W.cell? ⟨w15.heap.size, 1, none⟩ = some (.slice xR lR cR) ∧ W.cell? ⟨w15.heap.size, 2, none⟩ = some (.slice yR mR kR)) ∧ (W.cell? ⟨Bt, 0, none⟩ = some (.bool st) ∧ W.cell? ⟨Bt, 1, none⟩ = some (.slice xt lt ct) ∧ W.cell? ⟨Bt, 2, none⟩ = some (.slice yt mt kt)) ∧ W.cell? ⟨g8, j, none⟩ = some (.int .i64 ((B j : Nat) : Int))) := fun W hb => ⟨⟨(HRRt.out.later hb).c0, (HRRt.out.later hb).c1, (HRRt.out.later hb).c2⟩, ⟨(HXt.out.later hb).c0, (HXt.out.later hb).c1, (HXt.out.later hb).c2⟩, xcell (HNBt.out.later hb) h1⟩
      have hcur : Below Wt.heap.size Wt Wt.drew := (Below.refl _ _).drew
      refine region_but_last (n := 9) (S := fun W => (W.cell? ⟨w15.heap.size, 0, none⟩ = some (.bool sR) ∧ W.cell? ⟨w15.heap.size, 1, none⟩ = some (.slice xR lR cR) ∧ W.cell? ⟨w15.heap.size, 2, none⟩ = some (.slice yR mR kR)) ∧ (W.cell? ⟨Bt, 0, none⟩ = some (.bool st) ∧ W.cell? ⟨Bt, 1, none⟩ = some (.slice xt lt ct) ∧ W.cell? ⟨Bt, 2, none⟩ = some (.slice yt mt kt)) ∧ W.cell? ⟨g8, j, none⟩ = some (.int .i64 ((B j : Nat) : Int))) (by kernel_rfl) (by kernel_rfl) (by kernel_rfl) (HKS.out _ hcur) (fun hHeld => ?_)
      refine wpAnyH_take (i := 0) (v := ?v0a) rfl (by kernel_rfl) (by kernel_rfl) (by kernel_rfl) (fun _ _ _ h => h) (Or.inl ⟨by rfl, ?hy0a⟩) (by assumption) ?rest0a
      case hy0a => (intro w hSw; (try dsimp only at hSw); go_simp <;> (try with_reducible rfl))
      simp only [Act.put]
      refine wpAnyH_take (i := 1) (v := ?v1a) rfl (by kernel_rfl) (by kernel_rfl) (by kernel_rfl) (fun _ _ _ h => h) (Or.inl ⟨by rfl, ?hy1a⟩) (by assumption) ?rest1a
      case hy1a => (intro w hSw; (try dsimp only at hSw); go_simp <;> (try with_reducible rfl))
      simp only [Act.put]
      refine wpAnyH_take (i := 2) (v := ?v2a) rfl (by kernel_rfl) (by kernel_rfl) (by kernel_rfl) (fun _ _ _ h => h) (Or.inl ⟨by rfl, ?hy2a⟩) (by assumption) ?rest2a
      case hy2a => (intro w hSw; (try dsimp only at hSw); go_simp <;> (try with_reducible rfl))
      simp only [Act.put]
      refine wpAnyH_take (i := 3) (v := ?v3a) rfl (by kernel_rfl) (by kernel_rfl) (by kernel_rfl) (fun _ _ _ h => h) (Or.inl ⟨by rfl, ?hy3a⟩) (by assumption) ?rest3a
      case hy3a => (intro w hSw; (try dsimp only at hSw); go_simp <;> (try with_reducible rfl))
      simp only [Act.put]
      refine wpAnyH_take (i := 4) (v := ?v4a) rfl (by kernel_rfl) (by kernel_rfl) (by kernel_rfl) (fun _ _ _ h => h) (Or.inl ⟨by rfl, ?hy4a⟩) (by assumption) ?rest4a
      case hy4a => (intro w hSw; (try dsimp only at hSw); go_simp <;> (try with_reducible rfl))
      simp only [Act.put]
      refine wpAnyH_take (i := 6) (v := ?v6a) rfl (by kernel_rfl) (by kernel_rfl) (by kernel_rfl) (fun _ _ _ h => h) (Or.inl ⟨by rfl, ?hy6a⟩) (by assumption) ?rest6a
      case hy6a => (intro w hSw; (try dsimp only at hSw); go_simp <;> (try with_reducible rfl))
      simp only [Act.put]
      refine wpAnyH_ready (rs := [5]) (by kernel_rfl) (by simp) ?_
      refine AllReadyH.cons rfl (fun K hK => ?_) AllReadyH.nil
      go_simp
      refine (HRB.out _ j).mono ?_
      rintro e wa1 ⟨ra1, rfl, hra1, hba1⟩
      have hcur := below_chain hcur hba1
      have HV1 := Hid.mk' hra1
      obtain ⟨sa1, xa1, la1, ca1, ya1, ma1, ka1, hre⟩ := hra1.sl
      subst hre
      clear hra1 hba1
      go_wp2_with fail
      refine hK.out _ _ ?_ (fun hHeld => ?_)
      · exact HKS.out _ hcur
      clear hK K
      refine wpAnyH_ready (rs := [7]) (by kernel_rfl) (by simp) ?_
      refine AllReadyH.cons rfl (fun K hK => ?_) AllReadyH.nil
      go_simp
      refine (HT2.out _ _ _ j h1 HV1.out (HXt.out.later hcur).rat).mono ?_
      rintro e wa2 ⟨ra2, rfl, hra2, hba2⟩
      have hcur := below_chain hcur hba2
      have HV2 := Hid.mk' hra2
      obtain ⟨sa2, xa2, la2, ca2, ya2, ma2, ka2, hre⟩ := hra2.sl
      subst hre
      clear hra2 hba2
      go_wp2_with fail
      refine hK.out _ _ ?_ (fun hHeld => ?_)
      · exact HKS.out _ hcur
      clear hK K
      refine wpAnyH_ready (rs := [8]) (by kernel_rfl) (by simp) ?_
      refine AllReadyH.cons rfl (fun K hK => ?_) AllReadyH.nil
      go_simp
      refine (HPS.out _ _ _ j h1 (HRRt.out.later hcur).rat HV2.out).mono ?_
      rintro e wa3 ⟨ra3, rfl, hra3, hba3⟩
      have hcur := below_chain hcur hba3
      have HV3 := Hid.mk' hra3
      obtain ⟨sa3, xa3, la3, ca3, ya3, ma3, ka3, hre⟩ := hra3.sl
      subst hre
      clear hra3 hba3
      have hL9 := HRRt.out.later hcur
      have fz0 := hL9.fz 0 (by decide)
      have fz1 := hL9.fz 1 (by decide)
      have fz2 := hL9.fz 2 (by decide)
      have k0 := hL9.c0
      have k1 := hL9.c1
      have k2 := hL9.c2
      obtain ⟨⟨g0, g1⟩, ⟨g2, g3⟩, g4⟩ := put_three' (.bool sa3) (.slice xa3 la3 ca3) (.slice ya3 ma3 ka3) k0 k1 k2
      have HP := Hid.mk' (hL9.put HV3.out)
      clear hL9
      go_wp2_with fail
      refine hK.out _ _ ?_ (fun hHeld => ?_)
      · exact HKS.out _ hcur
      clear hK K
      refine wpAnyH_done (by kernel_rfl) ?_ _
      refine ahead_last rfl (fun K hK => ?_)
      go_simp
      refine hK _ _ ?_
      clear hK K
      unfold put3 at HP
      have HB8 := Hid.mk' (set3_below (below_chain HBt.out hcur) (Nat.le_refl _) (.bool sa3) (.slice xa3 la3 ca3) (.slice ya3 ma3 ka3))
      generalize ((wa3.setCell ⟨w15.heap.size, 0, none⟩ (.bool sa3)).setCell ⟨w15.heap.size, 1, none⟩ (.slice xa3 la3 ca3)).setCell ⟨w15.heap.size, 2, none⟩ (.slice ya3 ma3 ka3) = W8 at *
      clear HV1 HV2 HV3 hHeld g0 g1 g2 g3 g4 k0 k1 k2 fz0 fz1 fz2 hcur HKS HRRt HNBt HXt
      go_wp2_with fail
      exact ⟨⟨j + 1, h1, by go_num, ⟨_, _, _, _, _, _, _, HP.out⟩, HB8⟩, by simp [intOf] <;> omega⟩
    · obtain rfl : j = L := by omega
      have hjI : ¬ ((j : Int) < (j : Int)) := by omega
      have HRR := Hid.mk' hR
      have HXl := Hid.mk' (HY15.out.later HX.out)
      obtain ⟨c0, c1, c2, c3⟩ := HC.out wr (below_chain HBw15.out HX.out)
      have HCUR := Hid.mk' (below_chain HBw15.out HX.out)
      have HBX := HX
      clear hR HL
      clear HPW HPV HT1 HRB HT2 HPS HCE HM15 HZ15 HQ15 HY15
      go_wp2_with fail
      refine (HR2.out _).mono ?_
      rintro e w16 ⟨r16, rfl, hr16, hb⟩
      have HBw16 := Hid.mk' (below_chain HBX.out hb)
      have HRR16 := Hid.mk' (HRR.out.later hb)
      have HXl16 := Hid.mk' (HXl.out.later hb)
      clear hb HBX HRR HXl HX c0 c1 c2 c3
      have HS16 := Hid.mk' HBw16.out.size
      obtain ⟨sq, xq, lq, cq, yq, mq, kq, rfl⟩ := hr16.sl
      obtain ⟨Wq, hWq⟩ : ∃ W, W = w16.alloc (.cells #[.bool sq, .slice xq lq cq, .slice yq mq kq] 31) := ⟨_, rfl⟩
      have hbx : Below w16.heap.size w16 Wq := by rw [hWq]; exact (Below.refl _ _).alloc (Nat.le_refl _) _
      have HXq : Hid (RBox Wq w16.heap.size sq xq lq cq yq mq kq (lowN 1 2) (lowD 1 2)) := by show RBox _ _ _ _ _ _ _ _ _ _ _; rw [hWq]; exact RBox.fresh hr16
      have HBq := Hid.mk' (below_chain HBw16.out hbx)

      have HRRt := Hid.mk' (HRR16.out.later hbx)
      have HXlt := Hid.mk' (HXl16.out.later hbx)
      have HWq := Hid.mk' hWq
      clear hbx hWq hr16 HBw16 HRR16 HXl16
      go_upto_region 19 with fail
      rw [← HWq.out]
      clear HWq
      have hbq := below_chain HBw15.out HBq.out
      have HBQ := Hid.mk' hbq
      clear hbq
      have HKS : Hid (∀ W, Below Wq.heap.size Wq W → (W.cell? ⟨w10.heap.size, 0, none⟩ = some (.bool sl) ∧ W.cell? ⟨w10.heap.size, 1, none⟩ = some (.slice xl ll cl) ∧ W.cell? ⟨w10.heap.size, 2, none⟩ = some (.slice yl ml kl)) ∧ (W.cell? ⟨w16.heap.size, 0, none⟩ = some (.bool sq) ∧ W.cell? ⟨w16.heap.size, 1, none⟩ = some (.slice xq lq cq) ∧ W.cell? ⟨w16.heap.size, 2, none⟩ = some (.slice yq mq kq)) ∧ W.cell? ⟨w.heap.size, 1, none⟩ = some (.slice ad m cap)) := fun W hb => ⟨⟨(HXlt.out.later hb).c0, (HXlt.out.later hb).c1, (HXlt.out.later hb).c2⟩, ⟨(HXq.out.later hb).c0, (HXq.out.later hb).c1, (HXq.out.later hb).c2⟩, (HC.out _ (below_chain HBQ.out hb)).2.1⟩
      have hcur : Below Wq.heap.size Wq Wq.drew := (Below.refl _ _).drew
      refine region_but_last (n := 7) (S := fun W => (W.cell? ⟨w10.heap.size, 0, none⟩ = some (.bool sl) ∧ W.cell? ⟨w10.heap.size, 1, none⟩ = some (.slice xl ll cl) ∧ W.cell? ⟨w10.heap.size, 2, none⟩ = some (.slice yl ml kl)) ∧ (W.cell? ⟨w16.heap.size, 0, none⟩ = some (.bool sq) ∧ W.cell? ⟨w16.heap.size, 1, none⟩ = some (.slice xq lq cq) ∧ W.cell? ⟨w16.heap.size, 2, none⟩ = some (.slice yq mq kq)) ∧ W.cell? ⟨w.heap.size, 1, none⟩ = some (.slice ad m cap)) (by kernel_rfl) (by kernel_rfl) (by kernel_rfl) (HKS.out _ hcur) (fun hHeld => ?_)
      refine wpAnyH_take (i := 0) (v := ?v0b) rfl (by kernel_rfl) (by kernel_rfl) (by kernel_rfl) (fun _ _ _ h => h) (Or.inl ⟨by rfl, ?hy0b⟩) (by assumption) ?rest0b
      case hy0b => (intro w hSw; (try dsimp only at hSw); go_simp <;> (try with_reducible rfl))
      simp only [Act.put]
      refine wpAnyH_take (i := 1) (v := ?v1b) rfl (by kernel_rfl) (by kernel_rfl) (by kernel_rfl) (fun _ _ _ h => h) (Or.inl ⟨by rfl, ?hy1b⟩) (by assumption) ?rest1b
      case hy1b => (intro w hSw; (try dsimp only at hSw); go_simp <;> (try with_reducible rfl))
      simp only [Act.put]
      refine wpAnyH_take (i := 2) (v := ?v2b) rfl (by kernel_rfl) (by kernel_rfl) (by kernel_rfl) (fun _ _ _ h => h) (Or.inl ⟨by rfl, ?hy2b⟩) (by assumption) ?rest2b
      case hy2b => (intro w hSw; (try dsimp only at hSw); go_simp <;> (try with_reducible rfl))
      simp only [Act.put]
      refine wpAnyH_take (i := 3) (v := ?v3b) rfl (by kernel_rfl) (by kernel_rfl) (by kernel_rfl) (fun _ _ _ h => h) (Or.inl ⟨by rfl, ?hy3b⟩) (by assumption) ?rest3b
      case hy3b => (intro w hSw; (try dsimp only at hSw); go_simp <;> (try with_reducible rfl))
      simp only [Act.put]
      refine wpAnyH_take (i := 4) (v := ?v4b) rfl (by kernel_rfl) (by kernel_rfl) (by kernel_rfl) (fun _ _ _ h => h) (Or.inl ⟨by rfl, ?hy4b⟩) (by assumption) ?rest4b
      case hy4b => (intro w hSw; (try dsimp only at hSw); go_simp <;> (try with_reducible rfl))
      simp only [Act.put]
      refine wpAnyH_ready (rs := [5]) (by kernel_rfl) (by simp) ?_
      refine AllReadyH.cons rfl (fun K hK => ?_) AllReadyH.nil
      go_simp
      refine (HP2.out _ _ m hm30 (HXq.out.later hcur).rat).mono ?_
      rintro e wb1 ⟨rb1, rfl, hrb1, hbb1⟩
      have hcur := below_chain hcur hbb1
      have HV1 := Hid.mk' hrb1
      obtain ⟨sb1, xb1, lb1, cb1, yb1, mb1, kb1, hre⟩ := hrb1.sl
      subst hre
      clear hrb1 hbb1
      go_wp2_with fail
      refine hK.out _ _ ?_ (fun hHeld => ?_)
      · exact HKS.out _ hcur
      clear hK K
      refine wpAnyH_ready (rs := [6]) (by kernel_rfl) (by simp) ?_
      refine AllReadyH.cons rfl (fun K hK => ?_) AllReadyH.nil
      go_simp
      refine (HTL.out _ _ _ (HXlt.out.later hcur).rat HV1.out).mono ?_
      rintro e wb2 ⟨rb2, rfl, hrb2, hbb2⟩
      have hcur := below_chain hcur hbb2
      have HV2 := Hid.mk' hrb2
      obtain ⟨sb2, xb2, lb2, cb2, yb2, mb2, kb2, hre⟩ := hrb2.sl
      subst hre
      clear hrb2 hbb2
      have hL9 := HXlt.out.later hcur
      have fz0 := hL9.fz 0 (by decide)
      have fz1 := hL9.fz 1 (by decide)
      have fz2 := hL9.fz 2 (by decide)
      have k0 := hL9.c0
      have k1 := hL9.c1
      have k2 := hL9.c2
      obtain ⟨⟨g0, g1⟩, ⟨g2, g3⟩, g4⟩ := put_three' (.bool sb2) (.slice xb2 lb2 cb2) (.slice yb2 mb2 kb2) k0 k1 k2
      have HP := Hid.mk' (hL9.put HV2.out)
      clear hL9
      go_wp2_with fail
      refine hK.out _ _ ?_ (fun hHeld => ?_)
      · exact HKS.out _ hcur
      clear hK K
      refine wpAnyH_done (by kernel_rfl) ?_ _
      refine ahead_last rfl (fun K hK => ?_)
      go_simp
      refine hK _ _ ?_
      clear hK K
      unfold put3 at HP
      have HNE1 : Hid (w10.heap.size ≠ w15.heap.size) := by
        have h9 := HLR.out
        show _ ≠ _
        omega
      have HNE2 : Hid (w10.heap.size ≠ w16.heap.size) := by
        have h9 := HLR.out
        have h8 := HS16.out
        show _ ≠ _
        omega
      have HRA := Hid.mk' ((HRRt.out.later hcur).aside (HXlt.out.later hcur) HNE1.out (.bool sb2) (.slice xb2 lb2 cb2) (.slice yb2 mb2 kb2))
      have HXA := Hid.mk' ((HXq.out.later hcur).aside (HXlt.out.later hcur) HNE2.out (.bool sb2) (.slice xb2 lb2 cb2) (.slice yb2 mb2 kb2))
      have HB19 := Hid.mk' (set3_below (below_chain HBQ.out hcur) HS10.out (.bool sb2) (.slice xb2 lb2 cb2) (.slice yb2 mb2 kb2))
      unfold put3 at HRA HXA
      generalize ((wb2.setCell ⟨w10.heap.size, 0, none⟩ (.bool sb2)).setCell ⟨w10.heap.size, 1, none⟩ (.slice xb2 lb2 cb2)).setCell ⟨w10.heap.size, 2, none⟩ (.slice yb2 mb2 kb2) = W19 at *
      have HLF := Hid.mk' HP.out
      clear HP HV1 HV2 hHeld g0 g1 g2 g3 g4 k0 k1 k2 fz0 fz1 fz2 hcur HKS HRRt HXq HXlt HNE1 HNE2
      go_upto_region 20 with fail
      have HKS : Hid (∀ W, Below W19.heap.size W19 W → (W.cell? ⟨w15.heap.size, 0, none⟩ = some (.bool sR) ∧ W.cell? ⟨w15.heap.size, 1, none⟩ = some (.slice xR lR cR) ∧ W.cell? ⟨w15.heap.size, 2, none⟩ = some (.slice yR mR kR)) ∧ (W.cell? ⟨w16.heap.size, 0, none⟩ = some (.bool sq) ∧ W.cell? ⟨w16.heap.size, 1, none⟩ = some (.slice xq lq cq) ∧ W.cell? ⟨w16.heap.size, 2, none⟩ = some (.slice yq mq kq)) ∧ W.cell? ⟨w.heap.size, 0, none⟩ = some (.int .i64 (n : Int))) := fun W hb => ⟨⟨(HRA.out.later hb).c0, (HRA.out.later hb).c1, (HRA.out.later hb).c2⟩, ⟨(HXA.out.later hb).c0, (HXA.out.later hb).c1, (HXA.out.later hb).c2⟩, (HC.out _ (below_chain HB19.out hb)).1⟩
      have hcur : Below W19.heap.size W19 W19.drew := (Below.refl _ _).drew
      refine region_but_last (n := 6) (S := fun W => (W.cell? ⟨w15.heap.size, 0, none⟩ = some (.bool sR) ∧ W.cell? ⟨w15.heap.size, 1, none⟩ = some (.slice xR lR cR) ∧ W.cell? ⟨w15.heap.size, 2, none⟩ = some (.slice yR mR kR)) ∧ (W.cell? ⟨w16.heap.size, 0, none⟩ = some (.bool sq) ∧ W.cell? ⟨w16.heap.size, 1, none⟩ = some (.slice xq lq cq) ∧ W.cell? ⟨w16.heap.size, 2, none⟩ = some (.slice yq mq kq)) ∧ W.cell? ⟨w.heap.size, 0, none⟩ = some (.int .i64 (n : Int))) (by kernel_rfl) (by kernel_rfl) (by kernel_rfl) (HKS.out _ hcur) (fun hHeld => ?_)
      refine wpAnyH_take (i := 0) (v := ?v0c) rfl (by kernel_rfl) (by kernel_rfl) (by kernel_rfl) (fun _ _ _ h => h) (Or.inl ⟨by rfl, ?hy0c⟩) (by assumption) ?rest0c
      case hy0c => (intro w hSw; (try dsimp only at hSw); go_simp <;> (try with_reducible rfl))
      simp only [Act.put]
      refine wpAnyH_take (i := 1) (v := ?v1c) rfl (by kernel_rfl) (by kernel_rfl) (by kernel_rfl) (fun _ _ _ h => h) (Or.inl ⟨by rfl, ?hy1c⟩) (by assumption) ?rest1c
      case hy1c => (intro w hSw; (try dsimp only at hSw); go_simp <;> (try with_reducible rfl))
      simp only [Act.put]
      refine wpAnyH_take (i := 2) (v := ?v2c) rfl (by kernel_rfl) (by kernel_rfl) (by kernel_rfl) (fun _ _ _ h => h) (Or.inl ⟨by rfl, ?hy2c⟩) (by assumption) ?rest2c
      case hy2c => (intro w hSw; (try dsimp only at hSw); go_simp <;> (try with_reducible rfl))
      simp only [Act.put]
      refine wpAnyH_take (i := 3) (v := ?v3c) rfl (by kernel_rfl) (by kernel_rfl) (by kernel_rfl) (fun _ _ _ h => h) (Or.inl ⟨by rfl, ?hy3c⟩) (by assumption) ?rest3c
      case hy3c => (intro w hSw; (try dsimp only at hSw); go_simp <;> (try with_reducible rfl))
      simp only [Act.put]
      refine wpAnyH_ready (rs := [4]) (by kernel_rfl) (by simp) ?_
      refine AllReadyH.cons rfl (fun K hK => ?_) AllReadyH.nil
      go_simp
      refine (HP2.out _ _ n HN30.out (HXA.out.later hcur).rat).mono ?_
      rintro e wc1 ⟨rc1, rfl, hrc1, hbc1⟩
      have hcur := below_chain hcur hbc1
      have HV1 := Hid.mk' hrc1
      obtain ⟨sc1, xc1, lc1, cc1, yc1, mc1, kc1, hre⟩ := hrc1.sl
      subst hre
      clear hrc1 hbc1
      go_wp2_with fail
      refine hK.out _ _ ?_ (fun hHeld => ?_)
      · exact HKS.out _ hcur
      clear hK K
      refine wpAnyH_ready (rs := [5]) (by kernel_rfl) (by simp) ?_
      refine AllReadyH.cons rfl (fun K hK => ?_) AllReadyH.nil
      go_simp
      refine (HTR.out _ _ _ (HRA.out.later hcur).rat HV1.out).mono ?_
      rintro e wc2 ⟨rc2, rfl, hrc2, hbc2⟩
      have hcur := below_chain hcur hbc2
      have HV2 := Hid.mk' hrc2
      obtain ⟨sc2, xc2, lc2, cc2, yc2, mc2, kc2, hre⟩ := hrc2.sl
      subst hre
      clear hrc2 hbc2
      have hL9 := HRA.out.later hcur
      have fz0 := hL9.fz 0 (by decide)
      have fz1 := hL9.fz 1 (by decide)
      have fz2 := hL9.fz 2 (by decide)
      have k0 := hL9.c0
      have k1 := hL9.c1
      have k2 := hL9.c2
      obtain ⟨⟨g0, g1⟩, ⟨g2, g3⟩, g4⟩ := put_three' (.bool sc2) (.slice xc2 lc2 cc2) (.slice yc2 mc2 kc2) k0 k1 k2
      have HP := Hid.mk' (hL9.put HV2.out)
      clear hL9
      go_wp2_with fail
      refine hK.out _ _ ?_ (fun hHeld => ?_)
      · exact HKS.out _ hcur
      clear hK K
      refine wpAnyH_done (by kernel_rfl) ?_ _
      refine ahead_last rfl (fun K hK => ?_)
      go_simp
      refine hK _ _ ?_
      clear hK K
      unfold put3 at HP
      have HNE1 : Hid (w15.heap.size ≠ w10.heap.size) := by
        have h9 := HLR.out
        show _ ≠ _
        omega
      have HLA := Hid.mk' ((HLF.out.later hcur).aside (HRA.out.later hcur) HNE1.out (.bool sc2) (.slice xc2 lc2 cc2) (.slice yc2 mc2 kc2))
      have HB22 := Hid.mk' (set3_below (below_chain HB19.out hcur) HS15.out (.bool sc2) (.slice xc2 lc2 cc2) (.slice yc2 mc2 kc2))
      unfold put3 at HLA
      generalize ((wc2.setCell ⟨w15.heap.size, 0, none⟩ (.bool sc2)).setCell ⟨w15.heap.size, 1, none⟩ (.slice xc2 lc2 cc2)).setCell ⟨w15.heap.size, 2, none⟩ (.slice yc2 mc2 kc2) = W22 at *
      clear HV1 HV2 hHeld g0 g1 g2 g3 g4 k0 k1 k2 fz0 fz1 fz2 hcur HKS HRA HXA HLF HNE1
      have v0 := HP.out.c0
      have v1 := HP.out.c1
      have v2 := HP.out.c2
      have u0 := HLA.out.c0
      have u1 := HLA.out.c1
      have u2 := HLA.out.c2
      go_wp2_with fail
      refine (HCM.out _ _ _ HLA.out.rat HP.out.rat).mono ?_
      rintro e w23 ⟨rfl, hb23⟩
      have HB23 := Hid.mk' (below_chain HB22.out hb23)
      clear hb23 v0 v1 v2 u0 u1 u2 HP HLA HB22
      go_wp2_with fail
      go_ret
      exact ⟨rfl, HEND.out _ HB23.out⟩

theorem IsingExpansion_all (a : Nat → Addr) (N : Int) (m : Nat) (ev : Value) (p q : Nat → Int) (X D : Int) (w : World) (hE : Errs w a) (hG : EdAt w ev m p q) (hm : m ≤ maxLen) :
    Calls Tryd.prog 4 #[.agg #[.int .i64 N, ev], .agg #[.int .i64 X, .int .i64 D]] w fun e w' => e = .returned (.bool true) ∧ Below w.heap.size w w' := by
  by_cases h : m ≤ 200 ∧ syE N m p q = 0 ∧ 1 ≤ D ∧ D ≤ 1000 ∧ X ≤ 1000 ∧ -1000 ≤ X
  · obtain ⟨h1, h2, h3, h4, h5, h6⟩ := h
    have h7 := syE_zero h2
    obtain ⟨n, rfl⟩ : ∃ n : Nat, N = n := ⟨N.toNat, by omega⟩
    obtain ⟨d, rfl⟩ : ∃ d : Nat, D = d := ⟨D.toNat, by omega⟩
    exact IsingExpansion_yes a n m (m + 1) ev p q X d w hE hG hm rfl h2 (by omega) (by omega) h6 h5
  · exact IsingExpansion_no a N m ev p q X D w hE hG hm h
end Go.Proofs.YtpdenfjncpfogaaDoor

/- What the rows' condition on package variables gives a walk: two sentinels. -/
namespace Go.Proofs.YtpdenfjncpfogaaDoor
open Go.ChangeShapes Go.WideShapes Go.RowKit

theorem Tryd.own : ownKnob Tryd.prog.godebug = none := by kernel_rfl
theorem Tryd.star : ("*" ++ "errors.errorString" : String) = "*errors.errorString" := by decide
theorem Tryd.rowE (u : TypeId) (h : Tryd.prog.typeName? 3 u = some "*errors.errorString") : u = 143 :=
  typeName_ptr_named (nm := "errors.errorString") (by rw [Tryd.star]; kernel_rfl) (by kernel_rfl) (by decide) u (by rw [Tryd.star]; exact h)
theorem Tryd.cellsE : Tryd.prog.cellsOf 164 = 1 := by kernel_rfl
theorem Tryd.cellsS : Tryd.prog.cellsOf 9 = 1 := by kernel_rfl
theorem Tryd.g1 : Tryd.prog.globalNamed "demon/api.ErrBound" = some 0 := by kernel_rfl
theorem Tryd.g2 : Tryd.prog.globalNamed "demon/api.ErrShape" = some 1 := by kernel_rfl

/-- Any number of listed sentinels of one type: each one's pointer, text and row; no two are one. -/
theorem laid_list {P : Program} {W : World} {nm : String} {ti tp te ts : TypeId} {ms : Array (String × TypeId)} {f : Field}
    (hi : P.underlying ti = some (.interface ms)) (hrow : ∀ u, P.typeName? 3 u = some nm → u = tp)
    (hp : P.underlying tp = some (.pointer te)) (he : P.underlying te = some (.struct #[f])) (hft : f.type = ts) (hfo : f.offset = 0) (hs : P.underlying ts = some .string) (hc : P.cellsOf te = 1) (hcs : P.cellsOf ts = 1) :
    ∀ (L : List (String × List UInt8)) (ps : List MemPlace), (∀ x, x ∈ L → ∃ g, P.globalNamed x.1 = some g ∧ (P.globals[g]?).map (·.type) = some ti) →
      DataW.LaidVars P W (L.map fun x => (x.1, .iface nm (.ptr (.agg [.lit (.string x.2)])))) ps → ps.Nodup →
      (∀ b off, MemPlace.cell b off ∈ ps → (∃ c t, W.heap[b]? = some (.cells c t (0, 0))) ∧ ∀ u v, W.cell? ⟨b, off, none⟩ = some (.iface u v) → Value.okWide P W .any 0 u v) →
      ∃ a : Nat → Addr, (∀ i x, L[i]? = some x → W.var? P x.1 = some #[.iface tp (.pointer (some (a i)))] ∧ (∃ s, W.cell? (a i) = some (.string s) ∧ s.data.toList = x.2) ∧
          (∃ c t, W.heap[(a i).block]? = some (.cells c t (0, 0))) ∧ MemPlace.cell (a i).block (a i).off ∈ ps) ∧
        ∀ i j, i < L.length → j < L.length → i ≠ j → a i ≠ a j := by
  intro L
  induction L with
  | nil => intro ps _ _ _ _; exact ⟨fun _ => default, fun i x h => by simp at h, fun i j h => by simp at h⟩
  | cons x r ih =>
    intro ps hgs hv hnd hrows
    obtain ⟨n, text⟩ := x
    obtain ⟨g0, t0, cs0, f0, p0, q0, hg0, ht0, hv0, hd0, hvr, e0⟩ := hv
    obtain ⟨g, hg, ht⟩ := hgs (n, text) (List.mem_cons_self ..)
    obtain rfl := Option.some.inj (hg.symm.trans hg0)
    obtain rfl := Option.some.inj (ht.symm.trans ht0)
    subst e0
    obtain ⟨l0⟩ := cs0
    have ok0 : ∀ u v, l0 = [.iface u v] → Value.okWide P W .any 0 u v := fun u v e => by
      subst e
      exact (hrows g 0 (by simp [MemPlace.row])).2 u v (by simpa using World.var?_cell hg0 hv0 0)
    obtain ⟨a0, s0, rfl, hc0, hs0, hz0, rfl⟩ := errorString_of_trod hi hrow hp he hft hfo hs hc hcs hd0 ok0
    obtain ⟨c0, tt0, hb0⟩ := (hrows a0.block a0.off (by simp [MemPlace.row])).1
    have hnq : q0.Nodup := List.Nodup.sublist (List.sublist_append_right _ _) hnd
    obtain ⟨a', ha', hne'⟩ := ih q0 (fun x hx => hgs x (List.mem_cons_of_mem _ hx)) hvr hnq (fun b off hm => hrows b off (List.mem_append_right _ hm))
    have hnot : MemPlace.cell a0.block a0.off ∉ q0 := by
      intro hm
      have := (List.nodup_append.1 hnd).2.2
      exact this (.cell a0.block a0.off) (by simp [MemPlace.row]) (.cell a0.block a0.off) hm rfl
    refine ⟨fun i => match i with | 0 => a0 | k + 1 => a' k, ?_, ?_⟩
    · intro i x hx
      cases i with
      | zero =>
        simp only [List.getElem?_cons_zero, Option.some.injEq] at hx
        subst hx
        exact ⟨hv0, ⟨s0, hc0, hs0⟩, ⟨c0, tt0, hb0⟩, by simp [MemPlace.row]⟩
      | succ k =>
        simp only [List.getElem?_cons_succ] at hx
        obtain ⟨h1, h2, h3, h4⟩ := ha' k x hx
        exact ⟨h1, h2, h3, List.mem_append_right _ h4⟩
    · have far : ∀ k, k < r.length → a0 ≠ a' k := fun k hk e => by
        obtain ⟨_, _, _, h4⟩ := ha' k r[k] (by simp [hk])
        rw [← e] at h4
        exact hnot h4
      intro i j hi' hj' hij
      cases i with
      | zero =>
        cases j with
        | zero => exact absurd rfl hij
        | succ k => exact far k (by simpa using hj')
      | succ m =>
        cases j with
        | zero => exact (far m (by simpa using hi')).symm
        | succ k => exact hne' m k (by simpa using hi') (by simpa using hj') (by omega)

/-- The names and texts, in the rows' order. -/
def twoNames : List (String × List UInt8) := [("demon/api.ErrBound", [100, 101, 109, 111, 110, 58, 32, 98, 111, 117, 110, 100]), ("demon/api.ErrShape", [100, 101, 109, 111, 110, 58, 32, 115, 104, 97, 112, 101])]
def laidAll : List (String × DataW Unit) := [("demon/api.ErrBound", Rows.laid_demon_api_ErrBound), ("demon/api.ErrShape", Rows.laid_demon_api_ErrShape)]
theorem laidAll_parts (W : World) : laidMetH Tryd.prog laidAll W = laidMet Tryd.prog (twoNames.map fun x => (x.1, .iface "*errors.errorString" (.ptr (.agg [.lit (.string x.2)])))) W := by kernel_rfl

theorem var_at {W : World} {n : String} {g : Nat} {v : Value} (hg : Tryd.prog.globalNamed n = some g) (h : W.var? Tryd.prog n = some #[v]) : W.cell? ⟨g, 0, none⟩ = some v := by
  simpa using World.var?_cell hg h 0

theorem errs_of_laid {W : World} (h : laidMetH Tryd.prog laidAll W) : ∃ a : Nat → Addr, Errs W a := by
  rw [laidAll_parts] at h
  obtain ⟨ps, hv, hnd, hrows⟩ := h
  obtain ⟨a, ha, hne⟩ := laid_list Tryd.underlying38 Tryd.rowE Tryd.underlying143 Tryd.underlying164 rfl rfl Tryd.underlying9 Tryd.cellsE Tryd.cellsS twoNames ps
    (fun x hx => by
      simp only [twoNames, List.mem_cons, List.not_mem_nil, or_false] at hx
      rcases hx with rfl | rfl
      · exact ⟨_, Tryd.g1, by kernel_rfl⟩
      · exact ⟨_, Tryd.g2, by kernel_rfl⟩) hv hnd hrows
  exact ⟨fun i => a (i - 1), ⟨var_at Tryd.g1 (ha 0 _ rfl).1, var_at Tryd.g2 (ha 1 _ rfl).1⟩⟩

/-- The door's own heap meets the condition. -/
theorem door_met (os : Os) (args : Array Value) : laidMetH Tryd.prog laidAll ((World.doorLaid Tryd.prog 168 os).forCall (fun _ _ => 0) ⟨#[], args, []⟩).memory := by
  rw [laidAll_parts]
  exact laidMet_of_run' 8 (by kernel_rfl) (by kernel_rfl)
end Go.Proofs.YtpdenfjncpfogaaDoor

/- A parameter of type demonref4.System opened: its number, its slice, its bonds. -/
namespace Go.Proofs.YtpdenfjncpfogaaDoor
open Go.ChangeShapes Go.WideShapes Go.ChangeAt Go.RowKit Go.Joins Go.Deep

theorem Tryd.laidOutS : laidOutB Tryd.prog = true := by kernel_rfl
theorem Tryd.cellsSystem : Tryd.prog.cellsOf 46 = 2 := by kernel_rfl
theorem Tryd.cellsPair : Tryd.prog.cellsOf 57 = 2 := by kernel_rfl
theorem Tryd.cellsIntS : Tryd.prog.cellsOf 3 = 1 := by kernel_rfl

/-- The two numbers of an array of two. -/
theorem open_pair {H : Type} {enc : TypeId × Value → H} {W : World} {spare : Nat → Bool} {held : Bool} {fuel : Nat} {cs : List Value} {x : DataW H × List MemPlace} (h : DataW.trod enc Tryd.prog W 0 spare held fuel 57 cs = some x) (hl : cs.length = 2) : ∃ a b : Int, cs = [.int .i64 a, .int .i64 b] := by
  obtain ⟨xs, k, hk, _, _, hxl, hf⟩ := DataW.trod_array Tryd.underlying57 h
  rw [Tryd.cellsIntS] at hf
  match xs, hxl, cs, hl with
  | [y0, y1], _, [v0, v1], _ =>
    have g0 := hf 0 (by decide)
    have g1 := hf 1 (by decide)
    simp at g0 g1
    obtain ⟨a, e0, _, _⟩ := DataW.trod_int Tryd.underlying3 g0
    obtain ⟨b, e1, _, _⟩ := DataW.trod_int Tryd.underlying3 g1
    simp at e0 e1
    exact ⟨a, b, by rw [e0, e1]⟩

set_option maxRecDepth 100000 in
theorem open_system {H : Type} {enc : TypeId × Value → H} {W : World} {base : Nat} {v : Value} {d : DataW H} {p : List MemPlace} (hv : Value.okWide Tryd.prog W .any base 46 v)
    (h : DataW.Trod enc Tryd.prog W 0 (fun _ => true) true 46 v d p) :
    ∃ (N : Int) (m : Nat) (ev : Value) (pf qf : Nat → Int), v = .agg #[.int .i64 N, ev] ∧ EdAt W ev m pf qf ∧ m ≤ maxLen := by
  obtain ⟨c0, c1, y0, y1, m, rfl, rfl, rfl, hy0, hy1⟩ := open_agg2 Tryd.underlying46 (by kernel_rfl) Tryd.cellsSystem hv h
  obtain ⟨N, e0, _, _⟩ := DataW.trod_int Tryd.underlying3 hy0
  simp at e0
  subst e0
  rcases open_slice Tryd.underlying44 hy1 with ⟨hc, _⟩ | ⟨a, len, cap, mm, nn, D, Pl, hc, _, hl, hm, hmm, _, hx⟩
  · simp at hc
    subst hc
    exact ⟨N, 0, .slice none 0 0, fun _ => 0, fun _ => 0, rfl, ⟨none, 0, rfl, Or.inl rfl⟩, Nat.zero_le _⟩
  · simp at hc
    subst hc
    simp at hmm
    rcases Nat.eq_zero_or_pos len with rfl | hpos
    · exact ⟨N, 0, .slice (some a) 0 cap, fun _ => 0, fun _ => 0, rfl, ⟨some a, cap, rfl, Or.inl rfl⟩, Nat.zero_le _⟩
    · have each : ∀ i, i < len → ∃ x : Int × Int, W.cell? (a.add (i * 2)) = some (.int .i64 x.1) ∧ W.cell? (a.add (i * 2 + 1)) = some (.int .i64 x.2) := fun i hi => by
        obtain ⟨cs', h1, h2⟩ := hx i (by omega)
        rw [Tryd.cellsPair] at h1
        obtain ⟨_, hlen, hcell⟩ := World.cells?_some h1
        obtain ⟨x, y, rfl⟩ := open_pair h2 hlen
        have e0 := hcell 0 (by omega)
        have e1 := hcell 1 (by omega)
        rw [add_add] at e0 e1
        exact ⟨(x, y), by simpa using e0, by simpa using e1⟩
      obtain ⟨f, hf⟩ := choose_lt each
      obtain ⟨b, o, spot⟩ := a
      have hspot : spot = none := by simpa [Addr.add] using World.cell?_spot (hf 0 hpos).1
      subst hspot
      refine ⟨N, len, .slice (some ⟨b, o, none⟩) len cap, fun i => (f i).1, fun i => (f i).2, rfl, ⟨_, _, rfl, Or.inr ⟨b, o, rfl, fun i hi => ?_⟩⟩, by omega⟩
      obtain ⟨g0, g1⟩ := hf i hi
      rw [Go.Proofs.YtpdenfjncpfogaaDoor.add_plain] at g0
      rw [Go.Proofs.YtpdenfjncpfogaaDoor.add_plain, ← Nat.add_assoc] at g1
      exact ⟨g0, g1⟩
end Go.Proofs.YtpdenfjncpfogaaDoor

/- A parameter of type api.Frac opened: its two numbers. -/
namespace Go.Proofs.YtpdenfjncpfogaaDoor
open Go.ChangeShapes Go.WideShapes Go.ChangeAt Go.RowKit Go.Joins Go.Deep

theorem Tryd.cellsFrac : Tryd.prog.cellsOf 24 = 2 := by kernel_rfl

set_option maxRecDepth 100000 in
/-- What a parameter of type api.Frac gives: two numbers. -/
theorem open_frac {H : Type} {enc : TypeId × Value → H} {W : World} {base : Nat} {v : Value} {d : DataW H} {p : List MemPlace} (hv : Value.okWide Tryd.prog W .any base 24 v)
    (h : DataW.Trod enc Tryd.prog W 0 (fun _ => true) true 24 v d p) : ∃ x y : Int, v = .agg #[.int .i64 x, .int .i64 y] := by
  obtain ⟨c0, c1, y0, y1, m, rfl, rfl, rfl, hy0, hy1⟩ := open_agg2 Tryd.underlying24 (by kernel_rfl) Tryd.cellsFrac hv h
  obtain ⟨x, e0, _, _⟩ := DataW.trod_int Tryd.underlying3 hy0
  obtain ⟨y, e1, _, _⟩ := DataW.trod_int Tryd.underlying3 hy1
  simp at e0 e1
  subst e0
  subst e1
  exact ⟨x, y, rfl⟩
end Go.Proofs.YtpdenfjncpfogaaDoor
