/- The law LempelRegret. -/
import Derived.Test.YtgfejijaipggeaaDoorPackC
import Derived.Test.YtgfejijaipggeaaDoorRows
import Derived.Test.YtgfejijaipggeaaDoorCode
import Derived.ChangeSame
import Derived.ChangeVars
import Derived.JoinedOf
import Derived.LaidLaws
import Derived.LaidHandle
import Derived.LaidMore
import Derived.Stop.Joined
import Derived.Lay
import Derived.Test.YtgfejijaipggeaaDoorInts
import Derived.Test.YtgfejijaipggeaaDoorCards
import Derived.Test.YtgfejijaipggeaaDoorTie
import Derived.SevenTiedAt
import Derived.ProofKit
import Derived.OpenShut
import Derived.ChangeOld
import Derived.Lib.SmallJoins
import Derived.Deep.Matrix
namespace Go.Proofs.YtgfejijaipggeaaDoor
open Go.RowKit

set_option maxRecDepth 100000 in
set_option maxHeartbeats 8000000 in
theorem LempelRegret_all (a : Nat → Addr) (s : ByteArray) (w : World) (hE : Errs w a) (hT : s.size ≤ maxLen) :
    Calls Tryd.prog 5 #[.string s] w fun e w' => e = .returned (.bool true) ∧ Below w.heap.size w w' := by
  have hA := abab_any w
  unfold maxLen at hT
  by_cases h0 : s.size = 0
  · have h0I : (s.size : Int) = 0 := by omega
    clear hE
    go_enter Tryd.func5, Tryd.ntmps5
    go_wp2_with fail
    refine hA.mono ?_
    rintro e w1 ⟨rfl, hb1⟩
    have HB1 := Hid.mk' hb1
    clear hb1 hA
    go_wp2_with fail
    go_ret
    exact ⟨rfl, HB1.out⟩
  have h0I : ¬ (s.size : Int) = 0 := by omega
  by_cases h6 : 16 < s.size
  · have h6I : (16 : Int) < (s.size : Int) := by omega
    clear hE
    go_enter Tryd.func5, Tryd.ntmps5
    go_wp2_with fail
    refine hA.mono ?_
    rintro e w1 ⟨rfl, hb1⟩
    have HB1 := Hid.mk' hb1
    clear hb1 hA
    go_wp2_with fail
    go_ret
    exact ⟨rfl, HB1.out⟩
  have h6I : ¬ (16 : Int) < (s.size : Int) := by omega
  have hz0 : ((s.size : Int) == 0) = false := by rw [beq_eq_false_iff_ne]; exact h0I
  have hz6 : decide ((16 : Int) < (s.size : Int)) = false := decide_eq_false h6I
  have HDB := Hid.mk' (fun W => DocBits_any s W (by omega))
  by_cases hbb : bitB s = true
  case neg =>
    have hbb : bitB s = false := by simpa using hbb
    rw [hbb] at HDB
    clear hE
    go_enter Tryd.func5, Tryd.ntmps5
    go_wp2_with fail
    refine hA.mono ?_
    rintro e w1 ⟨rfl, hb1⟩
    have HB1 := Hid.mk' hb1
    clear hb1 hA
    go_wp2_with fail
    refine (HDB.out w1).mono ?_
    rintro e w2 ⟨rfl, hb2⟩
    have HB2 := Hid.mk' (below_chain HB1.out hb2)
    clear hb2
    go_wp2_with fail
    go_ret
    exact ⟨rfl, HB2.out⟩
  rw [hbb] at HDB
  have HBT : Hid (∀ i (hi : i < s.size), (s[i]'hi) = 48 ∨ (s[i]'hi) = 49) := fun i hi => bit_at hi hbb
  have hall : ∀ i, i < s.size → bitAt s i = some 0 ∨ bitAt s i = some 1 := fun i hi => by
    rcases HBT.out i hi with h | h
    · exact Or.inl (bitAt_zero hi h)
    · exact Or.inr (bitAt_one hi h)
  have hce : bitsE s = 0 := by unfold bitsE; rw [if_neg (by omega), if_pos hbb]
  have hle := lnN_le s s.size
  have hD62 := told_tab s.size (by omega)
  have hDp := lnD_pos s.size
  obtain ⟨p, hp⟩ : ∃ p, p = lnN s s.size / Nat.gcd (lnN s s.size) (lnD s.size) := ⟨_, rfl⟩
  obtain ⟨q, hq⟩ : ∃ q, q = lnD s.size / Nat.gcd (lnN s s.size) (lnD s.size) := ⟨_, rfl⟩
  have hp1 : p ≤ 4611686018427387904 := by have := Nat.div_le_self (lnN s s.size) (Nat.gcd (lnN s s.size) (lnD s.size)); omega
  have hq1 : q ≤ 4611686018427387904 := by have := Nat.div_le_self (lnD s.size) (Nat.gcd (lnN s s.size) (lnD s.size)); omega
  have HCH : Hid (∀ W, Below w.heap.size w W → Calls Tryd.prog 18 #[.string s] W fun e w' => e = .returned (.tuple #[.agg #[.int .i64 (p : Int), .int .i64 (q : Int)], .nilIface]) ∧ Below W.heap.size W w') := fun W hb => Chance_ok a s _ _ _ W (hE.below hb) hce (by unfold toldV; rw [← hp, ← hq, if_pos ⟨hp1, hq1⟩])
  have HOF : Hid (∀ W, Calls Tryd.prog 23 #[.agg #[.int .i64 (p : Int), .int .i64 (q : Int)]] W fun e w' => ∃ r, e = .returned r ∧ RatioAt w' r (lowN (lnD s.size) (lnN s s.size : Nat)) (lowD (lnD s.size) (lnN s s.size : Nat)) ∧ Below W.heap.size W w') := fun W => OfFrac_lw _ _ p q W hDp hp hq hp1 hq1
  have hcb := cntB_both hall
  have hkt := lnN_kt hall
  have hco := cntB_le s 1 s.size
  have HO : Hid (cntB s 1 s.size ≤ s.size) := hco
  obtain ⟨o, ho⟩ : ∃ o, cntB s 1 s.size = o := ⟨_, rfl⟩
  rw [ho] at hcb hkt hco
  rw [show cntB s 0 s.size = s.size - o by omega] at hkt
  have HTAB := Hid.mk' (regret_tab s.size (by omega) o (by omega) (by omega))
  rw [← hkt] at HTAB
  have HON := Hid.mk' ho
  obtain ⟨N, hN⟩ : ∃ N, N = lnN s s.size := ⟨_, rfl⟩
  obtain ⟨D, hD⟩ : ∃ D, D = lnD s.size := ⟨_, rfl⟩
  rw [← hN, ← hD] at HOF HTAB
  rw [← hN, ← hD] at hle
  rw [← hD] at hD62 hDp
  clear hN hD hp hq hkt hcb hall hbb hce ho hE hp1 hq1
  have hD6 : D < 1000000 ^ 10 := Nat.lt_of_le_of_lt hD62 (by decide)
  have hN6 : N < 1000000 ^ 10 := by omega
  have HT1 : Hid (∀ W u v, RatioAt W u (lowN D (N : Int)) (lowD D (N : Int)) → RatioAt W v (lowN D (N : Int)) (lowD D (N : Int)) → Calls Tryd.prog 22 #[u, v] W fun e w' => ∃ r, e = .returned r ∧ RatioAt w' r (lowN (D * D) ((N : Int) * (N : Int))) (lowD (D * D) ((N : Int) * (N : Int))) ∧ Below W.heap.size W w') := fun W u v hu hv =>
    Times_low u v D D _ _ W hu hv hDp hDp (Nat.lt_trans hD6 (by decide)) (Nat.lt_trans hD6 (by decide)) (by rw [Int.natAbs_natCast]; exact Nat.lt_trans hN6 (by decide)) (by rw [Int.natAbs_natCast]; exact Nat.lt_trans hN6 (by decide))
  have HR4 : Hid (∀ W, Calls Tryd.prog 21 #[.int .i64 (4 * (s.size : Int)), .int .i64 1] W fun e w' => ∃ r, e = .returned r ∧ RatioAt w' r (lowN 1 (4 * (s.size : Int))) (lowD 1 (4 * (s.size : Int))) ∧ Below W.heap.size W w') := fun W => RatioOf_any (4 * (s.size : Int)) 1 W (by omega) (by omega) (by decide) (by decide)
  have hDD : D * D < 1000000 ^ 20 := by have := Nat.mul_lt_mul_of_lt_of_lt hD6 hD6; exact Nat.lt_of_lt_of_le this (by decide)
  have hNN : N * N < 1000000 ^ 20 := by have := Nat.mul_lt_mul_of_lt_of_lt hN6 hN6; exact Nat.lt_of_lt_of_le this (by decide)
  have hDDp : 0 < D * D := Nat.mul_pos hDp hDp
  have HT2 : Hid (∀ W u v, RatioAt W u (lowN (D * D) ((N : Int) * (N : Int))) (lowD (D * D) ((N : Int) * (N : Int))) → RatioAt W v (lowN 1 (4 * (s.size : Int))) (lowD 1 (4 * (s.size : Int))) → Calls Tryd.prog 22 #[u, v] W fun e w' => ∃ r, e = .returned r ∧ RatioAt w' r (lowN (D * D * 1) ((N : Int) * (N : Int) * (4 * (s.size : Int)))) (lowD (D * D * 1) ((N : Int) * (N : Int) * (4 * (s.size : Int)))) ∧ Below W.heap.size W w') := fun W u v hu hv =>
    Times_low u v (D * D) 1 _ _ W hu hv hDDp (by decide) (Nat.lt_trans hDD (by decide)) (by decide) (by rw [← Int.natCast_mul, Int.natAbs_natCast]; exact Nat.lt_trans hNN (by decide)) (Nat.lt_of_le_of_lt (show (4 * (s.size : Int)).natAbs ≤ 64 by omega) (by decide))
  have HB16 : Hid (∀ i, i ≤ s.size → 0 < s.size ^ i ∧ s.size ^ i < 1000000 ^ 12 ∧ bsN s.size o i ≤ s.size ^ i) := fun i hi => ⟨Nat.pow_pos (by omega), pow16 (by omega) (by omega), bsN_le hco i⟩
  have HTB : Hid (∀ W u v, RatioAt W u (lowN (s.size ^ s.size) (bsN s.size o s.size : Nat)) (lowD (s.size ^ s.size) (bsN s.size o s.size : Nat)) → RatioAt W v (lowN (s.size ^ s.size) (bsN s.size o s.size : Nat)) (lowD (s.size ^ s.size) (bsN s.size o s.size : Nat)) → Calls Tryd.prog 22 #[u, v] W fun e w' => ∃ r, e = .returned r ∧ RatioAt w' r (lowN (s.size ^ s.size * s.size ^ s.size) ((bsN s.size o s.size : Int) * (bsN s.size o s.size : Int))) (lowD (s.size ^ s.size * s.size ^ s.size) ((bsN s.size o s.size : Int) * (bsN s.size o s.size : Int))) ∧ Below W.heap.size W w') := fun W u v hu hv => by
    obtain ⟨b1, b2, b3⟩ := HB16.out s.size (Nat.le_refl _)
    exact Times_low u v _ _ _ _ W hu hv b1 b1 (Nat.lt_trans b2 (by decide)) (Nat.lt_trans b2 (by decide)) (by rw [Int.natAbs_natCast]; exact Nat.lt_of_le_of_lt b3 (Nat.lt_trans b2 (by decide))) (by rw [Int.natAbs_natCast]; exact Nat.lt_of_le_of_lt b3 (Nat.lt_trans b2 (by decide)))
  have HCM : Hid (∀ W u v, RatioAt W u (lowN (D * D * 1) ((N : Int) * (N : Int) * (4 * (s.size : Int)))) (lowD (D * D * 1) ((N : Int) * (N : Int) * (4 * (s.size : Int)))) → RatioAt W v (lowN (s.size ^ s.size * s.size ^ s.size) ((bsN s.size o s.size : Int) * (bsN s.size o s.size : Int))) (lowD (s.size ^ s.size * s.size ^ s.size) ((bsN s.size o s.size : Int) * (bsN s.size o s.size : Int))) → Calls Tryd.prog 24 #[u, v] W fun e w' => ∃ z : Int, e = .returned (.int .i64 z) ∧ 0 ≤ z ∧ Below W.heap.size W w') := fun W u v hu hv => by
    obtain ⟨b1, b2, b3⟩ := HB16.out s.size (Nat.le_refl _)
    have b4 : s.size ^ s.size * s.size ^ s.size < 1000000 ^ 24 := Nat.lt_of_lt_of_le (Nat.mul_lt_mul_of_lt_of_lt b2 b2) (by decide)
    have b5 : bsN s.size o s.size * bsN s.size o s.size < 1000000 ^ 24 := Nat.lt_of_le_of_lt (Nat.mul_le_mul b3 b3) b4
    have b6 : N * N * (4 * s.size) < 1000000 ^ 22 := Nat.lt_of_lt_of_le (Nat.mul_lt_mul_of_lt_of_le hNN (show 4 * s.size ≤ 64 by omega) (by decide)) (by decide)
    refine Cmp_ge u v _ _ _ _ W hu hv (by omega) (Nat.mul_pos b1 b1) (by rw [Nat.mul_one]; exact Nat.lt_trans hDD (by decide)) (Nat.lt_trans b4 (by decide)) ?_ (by rw [← Int.natCast_mul, Int.natAbs_natCast]; exact Nat.lt_trans b5 (by decide)) ?_
    · rw [show (N : Int) * (N : Int) * (4 * (s.size : Int)) = ((N * N * (4 * s.size) : Nat) : Int) by simp, Int.natAbs_natCast]; exact Nat.lt_trans b6 (by decide)
    · rw [show (N : Int) * (N : Int) * (4 * (s.size : Int)) = ((N * N * (4 * s.size) : Nat) : Int) by simp, ← Int.natCast_mul, ← Int.natCast_mul, ← Int.natCast_mul, Nat.mul_one]
      exact Int.ofNat_le.2 HTAB.out
  have HRO : Hid (∀ W, Calls Tryd.prog 21 #[.int .i64 (o : Int), .int .i64 (s.size : Int)] W fun e w' => ∃ r, e = .returned r ∧ RatioAt w' r (lowN s.size (o : Int)) (lowD s.size (o : Int)) ∧ Below W.heap.size W w') := fun W => RatioOf_any (o : Int) s.size W (by omega) (by omega) (by omega) (by omega)
  obtain ⟨m, hm⟩ : ∃ m : Nat, s.size - o = m := ⟨_, rfl⟩
  have HRM : Hid (∀ W, Calls Tryd.prog 21 #[.int .i64 (m : Int), .int .i64 (s.size : Int)] W fun e w' => ∃ r, e = .returned r ∧ RatioAt w' r (lowN s.size (m : Int)) (lowD s.size (m : Int)) ∧ Below W.heap.size W w') := fun W => RatioOf_any (m : Int) s.size W (by omega) (by omega) (by omega) (by omega)
  have HTX : Hid (∀ (i x : Nat), i < s.size → x ≤ s.size → bsN s.size o (i + 1) = bsN s.size o i * x → ∀ W u v, RatioAt W u (lowN (s.size ^ i) (bsN s.size o i : Nat)) (lowD (s.size ^ i) (bsN s.size o i : Nat)) → RatioAt W v (lowN s.size (x : Int)) (lowD s.size (x : Int)) → Calls Tryd.prog 22 #[u, v] W fun e w' => ∃ r, e = .returned r ∧ RatioAt w' r (lowN (s.size ^ (i + 1)) (bsN s.size o (i + 1) : Nat)) (lowD (s.size ^ (i + 1)) (bsN s.size o (i + 1) : Nat)) ∧ Below W.heap.size W w') := fun i x hi hx he W u v hu hv => by
    obtain ⟨b1, b2, b3⟩ := HB16.out i (by omega)
    have h3 := Times_low u v _ _ _ _ W hu hv b1 (by omega) (Nat.lt_trans b2 (by decide)) (Nat.lt_of_le_of_lt (show s.size ≤ 16 by omega) (by decide)) (by rw [Int.natAbs_natCast]; exact Nat.lt_of_le_of_lt b3 (Nat.lt_trans b2 (by decide))) (by rw [Int.natAbs_natCast]; exact Nat.lt_of_le_of_lt (show x ≤ 16 by omega) (by decide))
    rw [← Int.natCast_mul, ← he, ← Nat.pow_succ] at h3
    exact h3
  have HMO : Hid (s.size - o = m ∧ m ≤ s.size ∧ o ≤ s.size) := ⟨hm, by omega, hco⟩
  have hmI : (s.size : Int) - (o : Int) = (m : Int) := by omega
  have hw1 : IntKind.i64.wrap ((s.size : Int) - (o : Int)) = (m : Int) := by rw [hmI]; exact wrapi_nat (by omega) (by omega)
  have hw2 : IntKind.i64.wrap (4 * (s.size : Int)) = 4 * (s.size : Int) := wrapi_nat (by omega) (by omega)
  have HQ1 : Hid (∀ W, Calls Tryd.prog 21 #[.int .i64 1, .int .i64 1] W fun e w' => ∃ r, e = .returned r ∧ RatioAt w' r (lowN 1 1) (lowD 1 1) ∧ Below W.heap.size W w') := fun W => RatioOf_any 1 1 W (by decide) (by decide) (by decide) (by decide)
  have HSZ : Hid (0 < s.size ∧ s.size ≤ 16) := ⟨by omega, by omega⟩
  clear hle hD62 hDp hD6 hN6 hDD hNN hDDp hm hmI hco HTAB HB16
  generalize D * D * 1 = MX at *
  generalize (N : Int) * (N : Int) * (4 * (s.size : Int)) = ZX at *
  go_enter Tryd.func5, Tryd.ntmps5
  go_wp2_with fail
  refine hA.mono ?_
  rintro e w1 ⟨rfl, hb1⟩
  have HB1 := Hid.mk' hb1
  clear hb1 hA
  go_wp2_with fail
  refine (HDB.out w1).mono ?_
  rintro e w2 ⟨rfl, hb2⟩
  have HB2 := Hid.mk' (below_chain HB1.out hb2)
  clear hb2
  go_wp2_with fail
  refine (HCH.out w2 HB2.out).mono ?_
  rintro e w3 ⟨rfl, hb3⟩
  have HB3 := Hid.mk' (below_chain (below_chain HB2.out hb3) (new_below w3 (.cells #[.int .i64 (p : Int), .int .i64 (q : Int)] 38)))
  have HF3 := Hid.mk' (FrAt.fresh w3 (p : Int) (q : Int))
  clear hb3
  go_wp2_with fail
  generalize w3.alloc (.cells #[.int .i64 (p : Int), .int .i64 (q : Int)] 38) = W4 at *
  generalize w3.heap.size = B4 at *
  go_loopw [7, 8] (fun d i wr => ∃ k : Nat, k ≤ s.size ∧ d = .int .i64 (cntB s 1 k : Nat) ∧ i = .int .i64 k ∧ Hid (wr = W4)) (fun _ i _ => s.size - (intOf i).toNat)
  case atStart => exact ⟨0, Nat.zero_le _, rfl, rfl, rfl⟩
  case round =>
    obtain ⟨k, hk, rfl, rfl, HW⟩ := hrel
    have hk0 : (0 : Int) ≤ (k : Int) := by omega
    rcases Nat.lt_or_ge k s.size with h1 | h1
    · have hkI : (k : Int) < (s.size : Int) := by omega
      have hc24 := cntB_le s 1 k
      rcases HBT.out k h1 with hx | hx
      · have hq := bitAt_zero h1 hx
        have hn : ((s[k]'h1).toNat : Int) = 48 := by rw [hx]; rfl
        have HC := Hid.mk' (cntB_other (c := 1) hq (by decide))
        generalize cntB s 1 k = c at *
        have hc0 : (0 : Int) ≤ (c : Int) ∧ (c : Int) ≤ 16 := by omega
        obtain ⟨hc1, hc2⟩ := hc0
        clear hx hq hc24
        go_wp2_with fail
        exact ⟨⟨k + 1, h1, by rw [HC.out], by go_num, HW.out⟩, by simp [intOf]; omega⟩
      · have hq := bitAt_one h1 hx
        have hn : ((s[k]'h1).toNat : Int) = 49 := by rw [hx]; rfl
        have HC := Hid.mk' (cntB_same hq)
        generalize cntB s 1 k = c at *
        have hc0 : (0 : Int) ≤ (c : Int) ∧ (c : Int) ≤ 16 := by omega
        obtain ⟨hc1, hc2⟩ := hc0
        clear hx hq hc24
        go_wp2_with fail
        exact ⟨⟨k + 1, h1, by rw [HC.out]; go_num, by go_num, HW.out⟩, by simp [intOf]; omega⟩
    · obtain rfl : k = s.size := by omega
      have hkI : ¬ (s.size : Int) < (s.size : Int) := by omega
      rw [HON.out]
      rw [HW.out]
      go_wp2_with fail
      refine (HQ1.out W4).mono ?_
      rintro e w5 ⟨r, rfl, hr, hb5⟩
      obtain ⟨s1, x1, l1, c1, x1', l1', c1', rfl⟩ := hr.sl
      have HR1 := Hid.mk' (RBox.fresh hr)
      have HLT9 := Hid.mk' hb5.size
      have HCUR := Hid.mk' (below_chain hb5 (new_below w5 (.cells #[.bool s1, .slice x1 l1 c1, .slice x1' l1' c1'] 45)))
      clear hr hb5 HQ1
      go_wp2_with fail
      generalize w5.alloc (.cells #[.bool s1, .slice x1 l1 c1, .slice x1' l1' c1'] 45) = W5 at *
      generalize w5.heap.size = B9 at *
      go_loopw [10] (fun t wr => ∃ (i : Nat) (s1 : Bool) (x1 x1' : Option Addr) (l1 c1 l1' c1' : Nat), i ≤ s.size ∧ t = .int .i64 i ∧ Hid (RBox wr B9 s1 x1 l1 c1 x1' l1' c1' (lowN (s.size ^ i) (bsN s.size o i : Nat)) (lowD (s.size ^ i) (bsN s.size o i : Nat))) ∧ Hid (Below W4.heap.size W4 wr)) (fun t _ => s.size - (intOf t).toNat)
      case atStart => exact ⟨0, s1, x1, x1', l1, c1, l1', c1', Nat.zero_le _, rfl, HR1.out, HCUR.out⟩
      case round =>
        clear HR1 HCUR HW
        obtain ⟨i, s1, x1, x1', l1, c1, l1', c1', hi, rfl, HR1, HB⟩ := hrel
        rcases Nat.lt_or_ge i s.size with h2 | h2
        · have hiI : (i : Int) < (s.size : Int) := by omega
          have y0 := HR1.out.c0
          have y1 := HR1.out.c1
          have y2 := HR1.out.c2
          have HKS : Hid (∀ W, Below wr.heap.size wr W → (W.cell? ⟨B9, 0, none⟩ = some (.bool s1) ∧ W.cell? ⟨B9, 1, none⟩ = some (.slice x1 l1 c1) ∧ W.cell? ⟨B9, 2, none⟩ = some (.slice x1' l1' c1'))) := fun W hb => ⟨by rw [hb.cell (cell_lt y0)]; exact y0, by rw [hb.cell (cell_lt y1)]; exact y1, by rw [hb.cell (cell_lt y2)]; exact y2⟩
          have HLW := Hid.mk' (fun (W : World) (hb : Below wr.heap.size wr W) => HR1.out.later hb)
          have hcur : Below wr.heap.size wr wr.drew := (Below.refl _ _).drew
          clear y0 y1 y2
          rcases Nat.lt_or_ge i o with h3 | h3
          · have h3I : (i : Int) < (o : Int) := by omega
            have HTY := Hid.mk' (HTX.out i o h2 HMO.out.2.2 (by show bsN s.size o i * _ = _; rw [if_pos h3]))
            go_wp2_with fail
            refine region_but_last (n := 5) (S := fun W => W.cell? ⟨B9, 0, none⟩ = some (.bool s1) ∧ W.cell? ⟨B9, 1, none⟩ = some (.slice x1 l1 c1) ∧ W.cell? ⟨B9, 2, none⟩ = some (.slice x1' l1' c1')) (by kernel_rfl) (by kernel_rfl) (by kernel_rfl) (HKS.out _ hcur) (fun hHeld => ?_)
            refine wpAnyH_take (i := 0) (v := ?v0r) rfl (by kernel_rfl) (by kernel_rfl) (by kernel_rfl) (fun _ _ _ h => h) (Or.inl ⟨by rfl, ?hy0r⟩) (by assumption) ?rest0r
            case hy0r => (intro w hSw; (try dsimp only at hSw); go_simp <;> (try with_reducible rfl))
            simp only [Act.put]
            refine wpAnyH_take (i := 1) (v := ?v1r) rfl (by kernel_rfl) (by kernel_rfl) (by kernel_rfl) (fun _ _ _ h => h) (Or.inl ⟨by rfl, ?hy1r⟩) (by assumption) ?rest1r
            case hy1r => (intro w hSw; (try dsimp only at hSw); go_simp <;> (try with_reducible rfl))
            simp only [Act.put]
            refine wpAnyH_take (i := 2) (v := ?v2r) rfl (by kernel_rfl) (by kernel_rfl) (by kernel_rfl) (fun _ _ _ h => h) (Or.inl ⟨by rfl, ?hy2r⟩) (by assumption) ?rest2r
            case hy2r => (intro w hSw; (try dsimp only at hSw); go_simp <;> (try with_reducible rfl))
            simp only [Act.put]
            refine wpAnyH_ready (rs := [3]) (by kernel_rfl) (by simp) ?_
            refine AllReadyH.cons rfl (fun K hK => ?_) AllReadyH.nil
            go_simp
            refine (HRO.out _).mono ?_
            rintro e w6 ⟨r1, rfl, hr1, hb6⟩
            have hcur := below_chain hcur hb6
            have HX1 := Hid.mk' hr1
            obtain ⟨t1, p1, m1, q1, p1', m1', q1', hr1e⟩ := hr1.sl
            subst hr1e
            clear hr1
            go_wp2_with fail
            refine hK.out _ _ ?_ (fun hHeld => ?_)
            · exact HKS.out _ hcur
            clear hK K
            refine wpAnyH_ready (rs := [4]) (by kernel_rfl) (by simp) ?_
            refine AllReadyH.cons rfl (fun K hK => ?_) AllReadyH.nil
            go_simp
            refine (HTY.out _ _ _ (HLW.out _ hcur).rat HX1.out).mono ?_
            rintro e w7 ⟨r3, rfl, hr3, hb7⟩
            have hcur := below_chain hcur hb7
            have HX3 := Hid.mk' hr3
            obtain ⟨t3, p3, m3, q3, p3', m3', q3', hr3e⟩ := hr3.sl
            subst hr3e
            clear hr3
            have hL := HLW.out _ hcur
            have fz0 := hL.fz 0 (by decide)
            have fz1 := hL.fz 1 (by decide)
            have fz2 := hL.fz 2 (by decide)
            have k0 := hL.c0
            have k1 := hL.c1
            have k2 := hL.c2
            obtain ⟨⟨g0, g1⟩, ⟨g2, g3⟩, g4⟩ := put_three' (.bool t3) (.slice p3 m3 q3) (.slice p3' m3' q3') k0 k1 k2
            have HSET := Hid.mk' (hL.put HX3.out)
            clear hL
            go_wp2_with fail
            refine hK.out _ _ ?_ (fun hHeld => ?_)
            · exact HKS.out _ hcur
            clear hK K
            refine wpAnyH_done (by kernel_rfl) ?_ _
            refine ahead_last rfl (fun K hK => ?_)
            go_simp
            refine hK _ _ ?_
            clear hK K
            unfold put3 at HSET
            have HB8 : Hid (Below W4.heap.size W4 (((w7.setCell ⟨B9, 0, none⟩ (.bool t3)).setCell ⟨B9, 1, none⟩ (.slice p3 m3 q3)).setCell ⟨B9, 2, none⟩ (.slice p3' m3' q3'))) := (((below_chain HB.out hcur).setCell HLT9.out _).setCell HLT9.out _).setCell HLT9.out _
            generalize ((w7.setCell ⟨B9, 0, none⟩ (.bool t3)).setCell ⟨B9, 1, none⟩ (.slice p3 m3 q3)).setCell ⟨B9, 2, none⟩ (.slice p3' m3' q3') = W8 at *
            clear HX1 HX3 hHeld g0 g1 g2 g3 g4 k0 k1 k2 fz0 fz1 fz2 hcur HKS HLW hb6 hb7 HR1
            go_wp2_with fail
            exact ⟨⟨i + 1, _, _, _, _, _, _, _, h2, by go_num, HSET.out, HB8.out⟩, by simp [intOf]; omega⟩
          · have h3I : ¬ (i : Int) < (o : Int) := by omega
            have HTY := Hid.mk' (HTX.out i m h2 HMO.out.2.1 (by show bsN s.size o i * _ = _; rw [if_neg (by omega), HMO.out.1]))
            go_wp2_with fail
            refine region_but_last (n := 7) (S := fun W => W.cell? ⟨B9, 0, none⟩ = some (.bool s1) ∧ W.cell? ⟨B9, 1, none⟩ = some (.slice x1 l1 c1) ∧ W.cell? ⟨B9, 2, none⟩ = some (.slice x1' l1' c1')) (by kernel_rfl) (by kernel_rfl) (by kernel_rfl) (HKS.out _ hcur) (fun hHeld => ?_)
            refine wpAnyH_take (i := 0) (v := ?v0t) rfl (by kernel_rfl) (by kernel_rfl) (by kernel_rfl) (fun _ _ _ h => h) (Or.inl ⟨by rfl, ?hy0t⟩) (by assumption) ?rest0t
            case hy0t => (intro w hSw; (try dsimp only at hSw); go_simp <;> (try with_reducible rfl))
            simp only [Act.put]
            refine wpAnyH_take (i := 1) (v := ?v1t) rfl (by kernel_rfl) (by kernel_rfl) (by kernel_rfl) (fun _ _ _ h => h) (Or.inl ⟨by rfl, ?hy1t⟩) (by assumption) ?rest1t
            case hy1t => (intro w hSw; (try dsimp only at hSw); go_simp <;> (try with_reducible rfl))
            simp only [Act.put]
            refine wpAnyH_take (i := 2) (v := ?v2t) rfl (by kernel_rfl) (by kernel_rfl) (by kernel_rfl) (fun _ _ _ h => h) (Or.inl ⟨by rfl, ?hy2t⟩) (by assumption) ?rest2t
            case hy2t => (intro w hSw; (try dsimp only at hSw); go_simp <;> (try with_reducible rfl))
            simp only [Act.put]
            refine wpAnyH_take (i := 3) (v := ?v3t) rfl (by kernel_rfl) (by kernel_rfl) (by kernel_rfl) (fun _ _ _ h => h) (Or.inl ⟨by rfl, ?hy3t⟩) (by assumption) ?rest3t
            case hy3t => (intro w hSw; (try dsimp only at hSw); go_simp <;> (try with_reducible rfl))
            simp only [Act.put]
            refine wpAnyH_take (i := 4) (v := ?v4t) rfl (by kernel_rfl) (by kernel_rfl) (by kernel_rfl) (fun _ _ _ h => h) (Or.inl ⟨by rfl, ?hy4t⟩) (by assumption) ?rest4t
            case hy4t => (intro w hSw; (try dsimp only at hSw); go_simp <;> (try with_reducible rfl))
            simp only [Act.put]
            refine wpAnyH_ready (rs := [5]) (by kernel_rfl) (by simp) ?_
            refine AllReadyH.cons rfl (fun K hK => ?_) AllReadyH.nil
            go_simp
            refine (HRM.out _).mono ?_
            rintro e w6 ⟨r1, rfl, hr1, hb6⟩
            have hcur := below_chain hcur hb6
            have HX1 := Hid.mk' hr1
            obtain ⟨t1, p1, m1, q1, p1', m1', q1', hr1e⟩ := hr1.sl
            subst hr1e
            clear hr1
            go_wp2_with fail
            refine hK.out _ _ ?_ (fun hHeld => ?_)
            · exact HKS.out _ hcur
            clear hK K
            refine wpAnyH_ready (rs := [6]) (by kernel_rfl) (by simp) ?_
            refine AllReadyH.cons rfl (fun K hK => ?_) AllReadyH.nil
            go_simp
            refine (HTY.out _ _ _ (HLW.out _ hcur).rat HX1.out).mono ?_
            rintro e w7 ⟨r3, rfl, hr3, hb7⟩
            have hcur := below_chain hcur hb7
            have HX3 := Hid.mk' hr3
            obtain ⟨t3, p3, m3, q3, p3', m3', q3', hr3e⟩ := hr3.sl
            subst hr3e
            clear hr3
            have hL := HLW.out _ hcur
            have fz0 := hL.fz 0 (by decide)
            have fz1 := hL.fz 1 (by decide)
            have fz2 := hL.fz 2 (by decide)
            have k0 := hL.c0
            have k1 := hL.c1
            have k2 := hL.c2
            obtain ⟨⟨g0, g1⟩, ⟨g2, g3⟩, g4⟩ := put_three' (.bool t3) (.slice p3 m3 q3) (.slice p3' m3' q3') k0 k1 k2
            have HSET := Hid.mk' (hL.put HX3.out)
            clear hL
            go_wp2_with fail
            refine hK.out _ _ ?_ (fun hHeld => ?_)
            · exact HKS.out _ hcur
            clear hK K
            refine wpAnyH_done (by kernel_rfl) ?_ _
            refine ahead_last rfl (fun K hK => ?_)
            go_simp
            refine hK _ _ ?_
            clear hK K
            unfold put3 at HSET
            have HB8 : Hid (Below W4.heap.size W4 (((w7.setCell ⟨B9, 0, none⟩ (.bool t3)).setCell ⟨B9, 1, none⟩ (.slice p3 m3 q3)).setCell ⟨B9, 2, none⟩ (.slice p3' m3' q3'))) := (((below_chain HB.out hcur).setCell HLT9.out _).setCell HLT9.out _).setCell HLT9.out _
            generalize ((w7.setCell ⟨B9, 0, none⟩ (.bool t3)).setCell ⟨B9, 1, none⟩ (.slice p3 m3 q3)).setCell ⟨B9, 2, none⟩ (.slice p3' m3' q3') = W8 at *
            clear HX1 HX3 hHeld g0 g1 g2 g3 g4 k0 k1 k2 fz0 fz1 fz2 hcur HKS HLW hb6 hb7 HR1
            go_wp2_with fail
            exact ⟨⟨i + 1, _, _, _, _, _, _, _, h2, by go_num, HSET.out, HB8.out⟩, by simp [intOf]; omega⟩
        · obtain rfl : i = s.size := by omega
          have HFR := Hid.mk' (fun (W : World) (hb : Below wr.heap.size wr W) => (HF3.out.later HB.out).later hb)
          obtain ⟨g0, g1, _, _⟩ := HFR.out wr (Below.refl _ _)
          have HKS : Hid (∀ W, Below wr.heap.size wr W → (W.cell? ⟨B4, 0, none⟩ = some (.int .i64 (p : Int)) ∧ W.cell? ⟨B4, 1, none⟩ = some (.int .i64 (q : Int)))) := fun W hb => ⟨(HFR.out W hb).c0, (HFR.out W hb).c1⟩
          clear g0 g1
          have hcur : Below wr.heap.size wr wr.drew := (Below.refl _ _).drew
          go_upto_region 20 with fail
          go_cut [11] from 75 (fun s' wx => ∃ (B : Nat) (s2 : Bool) (x2 x2' : Option Addr) (l2 c2 l2' c2' : Nat), s' = .pointer (some ⟨B, 0, none⟩) ∧ Hid (RBox wx B s2 x2 l2 c2 x2' l2' c2' (lowN MX ZX) (lowD MX ZX)) ∧ Hid (Below wr.heap.size wr wx))
          case first =>
            refine region_but_last (n := 10) (S := fun W => W.cell? ⟨B4, 0, none⟩ = some (.int .i64 (p : Int)) ∧ W.cell? ⟨B4, 1, none⟩ = some (.int .i64 (q : Int))) (by kernel_rfl) (by kernel_rfl) (by kernel_rfl) (HKS.out _ hcur) (fun hHeld => ?_)
            refine wpAnyH_take (i := 0) (v := ?v0x) rfl (by kernel_rfl) (by kernel_rfl) (by kernel_rfl) (fun _ _ _ h => h) (Or.inl ⟨by rfl, ?hy0x⟩) (by assumption) ?rest0x
            case hy0x => (intro w hSw; (try dsimp only at hSw); go_simp <;> (try with_reducible rfl))
            simp only [Act.put]
            refine wpAnyH_take (i := 2) (v := ?v2x) rfl (by kernel_rfl) (by kernel_rfl) (by kernel_rfl) (fun _ _ _ h => h) (Or.inl ⟨by rfl, ?hy2x⟩) (by assumption) ?rest2x
            case hy2x => (intro w hSw; (try dsimp only at hSw); go_simp <;> (try with_reducible rfl))
            simp only [Act.put]
            refine wpAnyH_take (i := 5) (v := ?v5x) rfl (by kernel_rfl) (by kernel_rfl) (by kernel_rfl) (fun _ _ _ h => h) (Or.inl ⟨by rfl, ?hy5x⟩) (by assumption) ?rest5x
            case hy5x => (intro w hSw; (try dsimp only at hSw); go_simp <;> (try with_reducible rfl))
            simp only [Act.put]
            refine wpAnyH_take (i := 6) (v := ?v6x) rfl (by kernel_rfl) (by kernel_rfl) (by kernel_rfl) (fun _ _ _ h => h) (Or.inl ⟨by rfl, ?hy6x⟩) (by assumption) ?rest6x
            case hy6x => (intro w hSw; (try dsimp only at hSw); go_simp <;> (try with_reducible rfl))
            simp only [Act.put]
            generalize wr.drew = Wd at *
            refine wpAnyH_ready (rs := [1, 9]) (by kernel_rfl) (by simp) ?_
            refine AllReadyH.cons rfl (fun K hK => ?_) (AllReadyH.cons rfl (fun K hK => ?_) AllReadyH.nil)
            · go_simp
              refine (HOF.out _).mono ?_
              rintro e wA ⟨rA, rfl, hrA, hbA⟩
              have hcur := below_chain hcur hbA
              have HXA := Hid.mk' hrA
              obtain ⟨tA, pA, mA, qA, pA', mA', qA', hrAe⟩ := hrA.sl
              subst hrAe
              clear hrA hbA
              go_wp2_with fail
              refine hK.out _ _ ?_ (fun hHeld => ?_)
              · exact HKS.out _ hcur
              clear hK K
              refine wpAnyH_ready (rs := [3, 9]) (by kernel_rfl) (by simp) ?_
              refine AllReadyH.cons rfl (fun K hK => ?_) (AllReadyH.cons rfl (fun K hK => ?_) AllReadyH.nil)
              · go_simp
                refine (HOF.out _).mono ?_
                rintro e wB ⟨rB, rfl, hrB, hbB⟩
                have hcur := below_chain hcur hbB
                have HXA := Hid.mk' (HXA.out.later hbB)
                have HXB := Hid.mk' hrB
                obtain ⟨tB, pB, mB, qB, pB', mB', qB', hrBe⟩ := hrB.sl
                subst hrBe
                clear hrB hbB
                clear HOF
                go_wp2_with fail
                refine hK.out _ _ ?_ (fun hHeld => ?_)
                · exact HKS.out _ hcur
                clear hK K
                refine wpAnyH_ready (rs := [4, 9]) (by kernel_rfl) (by simp) ?_
                refine AllReadyH.cons rfl (fun K hK => ?_) (AllReadyH.cons rfl (fun K hK => ?_) AllReadyH.nil)
                · go_simp
                  refine (HT1.out _ _ _ HXA.out HXB.out).mono ?_
                  rintro e wC ⟨rC, rfl, hrC, hbC⟩
                  have hcur := below_chain hcur hbC
                  have HXC := Hid.mk' hrC
                  obtain ⟨tC, pC, mC, qC, pC', mC', qC', hrCe⟩ := hrC.sl
                  subst hrCe
                  clear hrC hbC
                  clear HXA HXB
                  go_wp2_with fail
                  refine hK.out _ _ ?_ (fun hHeld => ?_)
                  · exact HKS.out _ hcur
                  clear hK K
                  refine wpAnyH_ready (rs := [7, 9]) (by kernel_rfl) (by simp) ?_
                  refine AllReadyH.cons rfl (fun K hK => ?_) (AllReadyH.cons rfl (fun K hK => ?_) AllReadyH.nil)
                  · go_simp
                    refine (HR4.out _).mono ?_
                    rintro e wD ⟨rD, rfl, hrD, hbD⟩
                    have hcur := below_chain hcur hbD
                    have HXC := Hid.mk' (HXC.out.later hbD)
                    have HXD := Hid.mk' hrD
                    obtain ⟨tD, pD, mD, qD, pD', mD', qD', hrDe⟩ := hrD.sl
                    subst hrDe
                    clear hrD hbD
                    go_wp2_with fail
                    refine hK.out _ _ ?_ (fun hHeld => ?_)
                    · exact HKS.out _ hcur
                    clear hK K
                    refine wpAnyH_ready (rs := [8, 9]) (by kernel_rfl) (by simp) ?_
                    refine AllReadyH.cons rfl (fun K hK => ?_) (AllReadyH.cons rfl (fun K hK => ?_) AllReadyH.nil)
                    · go_simp
                      refine (HT2.out _ _ _ HXC.out HXD.out).mono ?_
                      rintro e wE ⟨rE, rfl, hrE, hbE⟩
                      have hcur := below_chain hcur hbE
                      have HXE := Hid.mk' hrE
                      obtain ⟨tE, pE, mE, qE, pE', mE', qE', hrEe⟩ := hrE.sl
                      subst hrEe
                      clear hrE hbE
                      clear HXC HXD
                      go_wp2_with fail
                      refine hK.out _ _ ?_ (fun hHeld => ?_)
                      · exact HKS.out _ hcur
                      clear hK K
                      refine wpAnyH_ready (rs := [9]) (by kernel_rfl) (by simp) ?_
                      refine AllReadyH.cons rfl (fun K hK => ?_) AllReadyH.nil
                      · go_simp
                        have HX0 := HXE
                        have HC0 := Hid.mk' hcur
                        have HNB : Hid (RBox (wE.alloc (.cells #[.bool false, .slice none 0 0, .slice none 0 0] 45)) wE.heap.size false none 0 0 none 0 0 0 0) := RBox.fresh (w := wE) ⟨_, _, rfl, big_none _, big_none _⟩
                        have HNL : Hid (wr.heap.size ≤ wE.heap.size) := hcur.size
                        have hcur := more_below hcur (.cells #[.bool false, .slice none 0 0, .slice none 0 0] 45)
                        have HXE := Hid.mk' (HXE.out.later (new_below wE (.cells #[.bool false, .slice none 0 0, .slice none 0 0] 45)))
                        refine hK.out _ _ ?_ (fun hHeld => ?_)
                        · exact HKS.out _ hcur
                        clear hK K
                        have hN := HNB.out
                        have k0 := hN.c0
                        have k1 := hN.c1
                        have k2 := hN.c2
                        have fz0 := hN.fz 0 (by decide)
                        have fz1 := hN.fz 1 (by decide)
                        have fz2 := hN.fz 2 (by decide)
                        obtain ⟨⟨g0, g1⟩, ⟨g2, g3⟩, g4⟩ := put_three' (.bool tE) (.slice pE mE qE) (.slice pE' mE' qE') k0 k1 k2
                        have HSET := Hid.mk' (hN.put HXE.out)
                        clear hN
                        refine wpAnyH_done (by kernel_rfl) ?_ _
                        refine ahead_last rfl (fun K hK => ?_)
                        go_simp
                        refine hK _ _ ?_
                        clear hK K
                        unfold put3 at HSET
                        go_wp2_with fail
                        go_meet
                        exact ⟨_, _, _, _, _, _, _, _, rfl, RBox.fresh HX0.out, more_below HC0.out _⟩
                    · go_simp
                      have HNB : Hid (RBox (wD.alloc (.cells #[.bool false, .slice none 0 0, .slice none 0 0] 45)) wD.heap.size false none 0 0 none 0 0 0 0) := RBox.fresh (w := wD) ⟨_, _, rfl, big_none _, big_none _⟩
                      have HNL : Hid (wr.heap.size ≤ wD.heap.size) := hcur.size
                      have hcur := more_below hcur (.cells #[.bool false, .slice none 0 0, .slice none 0 0] 45)
                      have HXC := Hid.mk' (HXC.out.later (new_below wD (.cells #[.bool false, .slice none 0 0, .slice none 0 0] 45)))
                      have HXD := Hid.mk' (HXD.out.later (new_below wD (.cells #[.bool false, .slice none 0 0, .slice none 0 0] 45)))
                      refine hK.out _ _ ?_ (fun hHeld => ?_)
                      · exact HKS.out _ hcur
                      clear hK K
                      refine wpAnyH_ready (rs := [8]) (by kernel_rfl) (by simp) ?_
                      refine AllReadyH.cons rfl (fun K hK => ?_) AllReadyH.nil
                      · go_simp
                        refine (HT2.out _ _ _ HXC.out HXD.out).mono ?_
                        rintro e wE ⟨rE, rfl, hrE, hbE⟩
                        have hcur := below_chain hcur hbE
                        have HNB := Hid.mk' (HNB.out.later hbE)
                        have HXE := Hid.mk' hrE
                        obtain ⟨tE, pE, mE, qE, pE', mE', qE', hrEe⟩ := hrE.sl
                        subst hrEe
                        clear hrE hbE
                        clear HXC HXD
                        go_wp2_with fail
                        refine hK.out _ _ ?_ (fun hHeld => ?_)
                        · exact HKS.out _ hcur
                        clear hK K
                        have hN := HNB.out
                        have k0 := hN.c0
                        have k1 := hN.c1
                        have k2 := hN.c2
                        have fz0 := hN.fz 0 (by decide)
                        have fz1 := hN.fz 1 (by decide)
                        have fz2 := hN.fz 2 (by decide)
                        obtain ⟨⟨g0, g1⟩, ⟨g2, g3⟩, g4⟩ := put_three' (.bool tE) (.slice pE mE qE) (.slice pE' mE' qE') k0 k1 k2
                        have HSET := Hid.mk' (hN.put HXE.out)
                        clear hN
                        refine wpAnyH_done (by kernel_rfl) ?_ _
                        refine ahead_last rfl (fun K hK => ?_)
                        go_simp
                        refine hK _ _ ?_
                        clear hK K
                        unfold put3 at HSET
                        go_wp2_with fail
                        go_meet
                        exact ⟨_, _, _, _, _, _, _, _, rfl, HSET.out, ((hcur.setCell HNL.out _).setCell HNL.out _).setCell HNL.out _⟩
                  · go_simp
                    have HNB : Hid (RBox (wC.alloc (.cells #[.bool false, .slice none 0 0, .slice none 0 0] 45)) wC.heap.size false none 0 0 none 0 0 0 0) := RBox.fresh (w := wC) ⟨_, _, rfl, big_none _, big_none _⟩
                    have HNL : Hid (wr.heap.size ≤ wC.heap.size) := hcur.size
                    have hcur := more_below hcur (.cells #[.bool false, .slice none 0 0, .slice none 0 0] 45)
                    have HXC := Hid.mk' (HXC.out.later (new_below wC (.cells #[.bool false, .slice none 0 0, .slice none 0 0] 45)))
                    refine hK.out _ _ ?_ (fun hHeld => ?_)
                    · exact HKS.out _ hcur
                    clear hK K
                    refine wpAnyH_ready (rs := [7]) (by kernel_rfl) (by simp) ?_
                    refine AllReadyH.cons rfl (fun K hK => ?_) AllReadyH.nil
                    · go_simp
                      refine (HR4.out _).mono ?_
                      rintro e wD ⟨rD, rfl, hrD, hbD⟩
                      have hcur := below_chain hcur hbD
                      have HNB := Hid.mk' (HNB.out.later hbD)
                      have HXC := Hid.mk' (HXC.out.later hbD)
                      have HXD := Hid.mk' hrD
                      obtain ⟨tD, pD, mD, qD, pD', mD', qD', hrDe⟩ := hrD.sl
                      subst hrDe
                      clear hrD hbD
                      go_wp2_with fail
                      refine hK.out _ _ ?_ (fun hHeld => ?_)
                      · exact HKS.out _ hcur
                      clear hK K
                      refine wpAnyH_ready (rs := [8]) (by kernel_rfl) (by simp) ?_
                      refine AllReadyH.cons rfl (fun K hK => ?_) AllReadyH.nil
                      · go_simp
                        refine (HT2.out _ _ _ HXC.out HXD.out).mono ?_
                        rintro e wE ⟨rE, rfl, hrE, hbE⟩
                        have hcur := below_chain hcur hbE
                        have HNB := Hid.mk' (HNB.out.later hbE)
                        have HXE := Hid.mk' hrE
                        obtain ⟨tE, pE, mE, qE, pE', mE', qE', hrEe⟩ := hrE.sl
                        subst hrEe
                        clear hrE hbE
                        clear HXC HXD
                        go_wp2_with fail
                        refine hK.out _ _ ?_ (fun hHeld => ?_)
                        · exact HKS.out _ hcur
                        clear hK K
                        have hN := HNB.out
                        have k0 := hN.c0
                        have k1 := hN.c1
                        have k2 := hN.c2
                        have fz0 := hN.fz 0 (by decide)
                        have fz1 := hN.fz 1 (by decide)
                        have fz2 := hN.fz 2 (by decide)
                        obtain ⟨⟨g0, g1⟩, ⟨g2, g3⟩, g4⟩ := put_three' (.bool tE) (.slice pE mE qE) (.slice pE' mE' qE') k0 k1 k2
                        have HSET := Hid.mk' (hN.put HXE.out)
                        clear hN
                        refine wpAnyH_done (by kernel_rfl) ?_ _
                        refine ahead_last rfl (fun K hK => ?_)
                        go_simp
                        refine hK _ _ ?_
                        clear hK K
                        unfold put3 at HSET
                        go_wp2_with fail
                        go_meet
                        exact ⟨_, _, _, _, _, _, _, _, rfl, HSET.out, ((hcur.setCell HNL.out _).setCell HNL.out _).setCell HNL.out _⟩
                · go_simp
                  have HNB : Hid (RBox (wB.alloc (.cells #[.bool false, .slice none 0 0, .slice none 0 0] 45)) wB.heap.size false none 0 0 none 0 0 0 0) := RBox.fresh (w := wB) ⟨_, _, rfl, big_none _, big_none _⟩
                  have HNL : Hid (wr.heap.size ≤ wB.heap.size) := hcur.size
                  have hcur := more_below hcur (.cells #[.bool false, .slice none 0 0, .slice none 0 0] 45)
                  have HXA := Hid.mk' (HXA.out.later (new_below wB (.cells #[.bool false, .slice none 0 0, .slice none 0 0] 45)))
                  have HXB := Hid.mk' (HXB.out.later (new_below wB (.cells #[.bool false, .slice none 0 0, .slice none 0 0] 45)))
                  refine hK.out _ _ ?_ (fun hHeld => ?_)
                  · exact HKS.out _ hcur
                  clear hK K
                  refine wpAnyH_ready (rs := [4]) (by kernel_rfl) (by simp) ?_
                  refine AllReadyH.cons rfl (fun K hK => ?_) AllReadyH.nil
                  · go_simp
                    refine (HT1.out _ _ _ HXA.out HXB.out).mono ?_
                    rintro e wC ⟨rC, rfl, hrC, hbC⟩
                    have hcur := below_chain hcur hbC
                    have HNB := Hid.mk' (HNB.out.later hbC)
                    have HXC := Hid.mk' hrC
                    obtain ⟨tC, pC, mC, qC, pC', mC', qC', hrCe⟩ := hrC.sl
                    subst hrCe
                    clear hrC hbC
                    clear HXA HXB
                    go_wp2_with fail
                    refine hK.out _ _ ?_ (fun hHeld => ?_)
                    · exact HKS.out _ hcur
                    clear hK K
                    refine wpAnyH_ready (rs := [7]) (by kernel_rfl) (by simp) ?_
                    refine AllReadyH.cons rfl (fun K hK => ?_) AllReadyH.nil
                    · go_simp
                      refine (HR4.out _).mono ?_
                      rintro e wD ⟨rD, rfl, hrD, hbD⟩
                      have hcur := below_chain hcur hbD
                      have HNB := Hid.mk' (HNB.out.later hbD)
                      have HXC := Hid.mk' (HXC.out.later hbD)
                      have HXD := Hid.mk' hrD
                      obtain ⟨tD, pD, mD, qD, pD', mD', qD', hrDe⟩ := hrD.sl
                      subst hrDe
                      clear hrD hbD
                      go_wp2_with fail
                      refine hK.out _ _ ?_ (fun hHeld => ?_)
                      · exact HKS.out _ hcur
                      clear hK K
                      refine wpAnyH_ready (rs := [8]) (by kernel_rfl) (by simp) ?_
                      refine AllReadyH.cons rfl (fun K hK => ?_) AllReadyH.nil
                      · go_simp
                        refine (HT2.out _ _ _ HXC.out HXD.out).mono ?_
                        rintro e wE ⟨rE, rfl, hrE, hbE⟩
                        have hcur := below_chain hcur hbE
                        have HNB := Hid.mk' (HNB.out.later hbE)
                        have HXE := Hid.mk' hrE
                        obtain ⟨tE, pE, mE, qE, pE', mE', qE', hrEe⟩ := hrE.sl
                        subst hrEe
                        clear hrE hbE
                        clear HXC HXD
                        go_wp2_with fail
                        refine hK.out _ _ ?_ (fun hHeld => ?_)
                        · exact HKS.out _ hcur
                        clear hK K
                        have hN := HNB.out
                        have k0 := hN.c0
                        have k1 := hN.c1
                        have k2 := hN.c2
                        have fz0 := hN.fz 0 (by decide)
                        have fz1 := hN.fz 1 (by decide)
                        have fz2 := hN.fz 2 (by decide)
                        obtain ⟨⟨g0, g1⟩, ⟨g2, g3⟩, g4⟩ := put_three' (.bool tE) (.slice pE mE qE) (.slice pE' mE' qE') k0 k1 k2
                        have HSET := Hid.mk' (hN.put HXE.out)
                        clear hN
                        refine wpAnyH_done (by kernel_rfl) ?_ _
                        refine ahead_last rfl (fun K hK => ?_)
                        go_simp
                        refine hK _ _ ?_
                        clear hK K
                        unfold put3 at HSET
                        go_wp2_with fail
                        go_meet
                        exact ⟨_, _, _, _, _, _, _, _, rfl, HSET.out, ((hcur.setCell HNL.out _).setCell HNL.out _).setCell HNL.out _⟩
              · go_simp
                have HNB : Hid (RBox (wA.alloc (.cells #[.bool false, .slice none 0 0, .slice none 0 0] 45)) wA.heap.size false none 0 0 none 0 0 0 0) := RBox.fresh (w := wA) ⟨_, _, rfl, big_none _, big_none _⟩
                have HNL : Hid (wr.heap.size ≤ wA.heap.size) := hcur.size
                have hcur := more_below hcur (.cells #[.bool false, .slice none 0 0, .slice none 0 0] 45)
                have HXA := Hid.mk' (HXA.out.later (new_below wA (.cells #[.bool false, .slice none 0 0, .slice none 0 0] 45)))
                refine hK.out _ _ ?_ (fun hHeld => ?_)
                · exact HKS.out _ hcur
                clear hK K
                refine wpAnyH_ready (rs := [3]) (by kernel_rfl) (by simp) ?_
                refine AllReadyH.cons rfl (fun K hK => ?_) AllReadyH.nil
                · go_simp
                  refine (HOF.out _).mono ?_
                  rintro e wB ⟨rB, rfl, hrB, hbB⟩
                  have hcur := below_chain hcur hbB
                  have HNB := Hid.mk' (HNB.out.later hbB)
                  have HXA := Hid.mk' (HXA.out.later hbB)
                  have HXB := Hid.mk' hrB
                  obtain ⟨tB, pB, mB, qB, pB', mB', qB', hrBe⟩ := hrB.sl
                  subst hrBe
                  clear hrB hbB
                  clear HOF
                  go_wp2_with fail
                  refine hK.out _ _ ?_ (fun hHeld => ?_)
                  · exact HKS.out _ hcur
                  clear hK K
                  refine wpAnyH_ready (rs := [4]) (by kernel_rfl) (by simp) ?_
                  refine AllReadyH.cons rfl (fun K hK => ?_) AllReadyH.nil
                  · go_simp
                    refine (HT1.out _ _ _ HXA.out HXB.out).mono ?_
                    rintro e wC ⟨rC, rfl, hrC, hbC⟩
                    have hcur := below_chain hcur hbC
                    have HNB := Hid.mk' (HNB.out.later hbC)
                    have HXC := Hid.mk' hrC
                    obtain ⟨tC, pC, mC, qC, pC', mC', qC', hrCe⟩ := hrC.sl
                    subst hrCe
                    clear hrC hbC
                    clear HXA HXB
                    go_wp2_with fail
                    refine hK.out _ _ ?_ (fun hHeld => ?_)
                    · exact HKS.out _ hcur
                    clear hK K
                    refine wpAnyH_ready (rs := [7]) (by kernel_rfl) (by simp) ?_
                    refine AllReadyH.cons rfl (fun K hK => ?_) AllReadyH.nil
                    · go_simp
                      refine (HR4.out _).mono ?_
                      rintro e wD ⟨rD, rfl, hrD, hbD⟩
                      have hcur := below_chain hcur hbD
                      have HNB := Hid.mk' (HNB.out.later hbD)
                      have HXC := Hid.mk' (HXC.out.later hbD)
                      have HXD := Hid.mk' hrD
                      obtain ⟨tD, pD, mD, qD, pD', mD', qD', hrDe⟩ := hrD.sl
                      subst hrDe
                      clear hrD hbD
                      go_wp2_with fail
                      refine hK.out _ _ ?_ (fun hHeld => ?_)
                      · exact HKS.out _ hcur
                      clear hK K
                      refine wpAnyH_ready (rs := [8]) (by kernel_rfl) (by simp) ?_
                      refine AllReadyH.cons rfl (fun K hK => ?_) AllReadyH.nil
                      · go_simp
                        refine (HT2.out _ _ _ HXC.out HXD.out).mono ?_
                        rintro e wE ⟨rE, rfl, hrE, hbE⟩
                        have hcur := below_chain hcur hbE
                        have HNB := Hid.mk' (HNB.out.later hbE)
                        have HXE := Hid.mk' hrE
                        obtain ⟨tE, pE, mE, qE, pE', mE', qE', hrEe⟩ := hrE.sl
                        subst hrEe
                        clear hrE hbE
                        clear HXC HXD
                        go_wp2_with fail
                        refine hK.out _ _ ?_ (fun hHeld => ?_)
                        · exact HKS.out _ hcur
                        clear hK K
                        have hN := HNB.out
                        have k0 := hN.c0
                        have k1 := hN.c1
                        have k2 := hN.c2
                        have fz0 := hN.fz 0 (by decide)
                        have fz1 := hN.fz 1 (by decide)
                        have fz2 := hN.fz 2 (by decide)
                        obtain ⟨⟨g0, g1⟩, ⟨g2, g3⟩, g4⟩ := put_three' (.bool tE) (.slice pE mE qE) (.slice pE' mE' qE') k0 k1 k2
                        have HSET := Hid.mk' (hN.put HXE.out)
                        clear hN
                        refine wpAnyH_done (by kernel_rfl) ?_ _
                        refine ahead_last rfl (fun K hK => ?_)
                        go_simp
                        refine hK _ _ ?_
                        clear hK K
                        unfold put3 at HSET
                        go_wp2_with fail
                        go_meet
                        exact ⟨_, _, _, _, _, _, _, _, rfl, HSET.out, ((hcur.setCell HNL.out _).setCell HNL.out _).setCell HNL.out _⟩
            · go_simp
              have HNB : Hid (RBox (Wd.alloc (.cells #[.bool false, .slice none 0 0, .slice none 0 0] 45)) Wd.heap.size false none 0 0 none 0 0 0 0) := RBox.fresh (w := Wd) ⟨_, _, rfl, big_none _, big_none _⟩
              have HNL : Hid (wr.heap.size ≤ Wd.heap.size) := hcur.size
              have hcur := more_below hcur (.cells #[.bool false, .slice none 0 0, .slice none 0 0] 45)
              refine hK.out _ _ ?_ (fun hHeld => ?_)
              · exact HKS.out _ hcur
              clear hK K
              refine wpAnyH_ready (rs := [1]) (by kernel_rfl) (by simp) ?_
              refine AllReadyH.cons rfl (fun K hK => ?_) AllReadyH.nil
              · go_simp
                refine (HOF.out _).mono ?_
                rintro e wA ⟨rA, rfl, hrA, hbA⟩
                have hcur := below_chain hcur hbA
                have HNB := Hid.mk' (HNB.out.later hbA)
                have HXA := Hid.mk' hrA
                obtain ⟨tA, pA, mA, qA, pA', mA', qA', hrAe⟩ := hrA.sl
                subst hrAe
                clear hrA hbA
                go_wp2_with fail
                refine hK.out _ _ ?_ (fun hHeld => ?_)
                · exact HKS.out _ hcur
                clear hK K
                refine wpAnyH_ready (rs := [3]) (by kernel_rfl) (by simp) ?_
                refine AllReadyH.cons rfl (fun K hK => ?_) AllReadyH.nil
                · go_simp
                  refine (HOF.out _).mono ?_
                  rintro e wB ⟨rB, rfl, hrB, hbB⟩
                  have hcur := below_chain hcur hbB
                  have HNB := Hid.mk' (HNB.out.later hbB)
                  have HXA := Hid.mk' (HXA.out.later hbB)
                  have HXB := Hid.mk' hrB
                  obtain ⟨tB, pB, mB, qB, pB', mB', qB', hrBe⟩ := hrB.sl
                  subst hrBe
                  clear hrB hbB
                  clear HOF
                  go_wp2_with fail
                  refine hK.out _ _ ?_ (fun hHeld => ?_)
                  · exact HKS.out _ hcur
                  clear hK K
                  refine wpAnyH_ready (rs := [4]) (by kernel_rfl) (by simp) ?_
                  refine AllReadyH.cons rfl (fun K hK => ?_) AllReadyH.nil
                  · go_simp
                    refine (HT1.out _ _ _ HXA.out HXB.out).mono ?_
                    rintro e wC ⟨rC, rfl, hrC, hbC⟩
                    have hcur := below_chain hcur hbC
                    have HNB := Hid.mk' (HNB.out.later hbC)
                    have HXC := Hid.mk' hrC
                    obtain ⟨tC, pC, mC, qC, pC', mC', qC', hrCe⟩ := hrC.sl
                    subst hrCe
                    clear hrC hbC
                    clear HXA HXB
                    go_wp2_with fail
                    refine hK.out _ _ ?_ (fun hHeld => ?_)
                    · exact HKS.out _ hcur
                    clear hK K
                    refine wpAnyH_ready (rs := [7]) (by kernel_rfl) (by simp) ?_
                    refine AllReadyH.cons rfl (fun K hK => ?_) AllReadyH.nil
                    · go_simp
                      refine (HR4.out _).mono ?_
                      rintro e wD ⟨rD, rfl, hrD, hbD⟩
                      have hcur := below_chain hcur hbD
                      have HNB := Hid.mk' (HNB.out.later hbD)
                      have HXC := Hid.mk' (HXC.out.later hbD)
                      have HXD := Hid.mk' hrD
                      obtain ⟨tD, pD, mD, qD, pD', mD', qD', hrDe⟩ := hrD.sl
                      subst hrDe
                      clear hrD hbD
                      go_wp2_with fail
                      refine hK.out _ _ ?_ (fun hHeld => ?_)
                      · exact HKS.out _ hcur
                      clear hK K
                      refine wpAnyH_ready (rs := [8]) (by kernel_rfl) (by simp) ?_
                      refine AllReadyH.cons rfl (fun K hK => ?_) AllReadyH.nil
                      · go_simp
                        refine (HT2.out _ _ _ HXC.out HXD.out).mono ?_
                        rintro e wE ⟨rE, rfl, hrE, hbE⟩
                        have hcur := below_chain hcur hbE
                        have HNB := Hid.mk' (HNB.out.later hbE)
                        have HXE := Hid.mk' hrE
                        obtain ⟨tE, pE, mE, qE, pE', mE', qE', hrEe⟩ := hrE.sl
                        subst hrEe
                        clear hrE hbE
                        clear HXC HXD
                        go_wp2_with fail
                        refine hK.out _ _ ?_ (fun hHeld => ?_)
                        · exact HKS.out _ hcur
                        clear hK K
                        have hN := HNB.out
                        have k0 := hN.c0
                        have k1 := hN.c1
                        have k2 := hN.c2
                        have fz0 := hN.fz 0 (by decide)
                        have fz1 := hN.fz 1 (by decide)
                        have fz2 := hN.fz 2 (by decide)
                        obtain ⟨⟨g0, g1⟩, ⟨g2, g3⟩, g4⟩ := put_three' (.bool tE) (.slice pE mE qE) (.slice pE' mE' qE') k0 k1 k2
                        have HSET := Hid.mk' (hN.put HXE.out)
                        clear hN
                        refine wpAnyH_done (by kernel_rfl) ?_ _
                        refine ahead_last rfl (fun K hK => ?_)
                        go_simp
                        refine hK _ _ ?_
                        clear hK K
                        unfold put3 at HSET
                        go_wp2_with fail
                        go_meet
                        exact ⟨_, _, _, _, _, _, _, _, rfl, HSET.out, ((hcur.setCell HNL.out _).setCell HNL.out _).setCell HNL.out _⟩
          case rest =>
          obtain ⟨B11, s2, x2, x2', l2, c2, l2', c2', rfl, HR2, HBC⟩ := hcut
          clear hcur HKS HFR HOF HT1 HT2 HR4
          obtain ⟨Wc, hWc⟩ : ∃ Wc, Wc = wc := ⟨_, rfl⟩
          rw [← hWc] at HR2 HBC ⊢
          clear hWc
          have HR9 := Hid.mk' (HR1.out.later HBC.out)
          have HLW := Hid.mk' (fun (W : World) (hb : Below Wc.heap.size Wc W) => And.intro (HR2.out.later hb) (HR9.out.later hb))
          have HKS : Hid (∀ W, Below Wc.heap.size Wc W → (W.cell? ⟨B11, 0, none⟩ = some (.bool s2) ∧ W.cell? ⟨B11, 1, none⟩ = some (.slice x2 l2 c2) ∧ W.cell? ⟨B11, 2, none⟩ = some (.slice x2' l2' c2')) ∧ (W.cell? ⟨B9, 0, none⟩ = some (.bool s1) ∧ W.cell? ⟨B9, 1, none⟩ = some (.slice x1 l1 c1) ∧ W.cell? ⟨B9, 2, none⟩ = some (.slice x1' l1' c1'))) := fun W hb => ⟨⟨(HLW.out W hb).1.c0, (HLW.out W hb).1.c1, (HLW.out W hb).1.c2⟩, ⟨(HLW.out W hb).2.c0, (HLW.out W hb).2.c1, (HLW.out W hb).2.c2⟩⟩
          have hcur : Below Wc.heap.size Wc Wc.drew := (Below.refl _ _).drew
          go_upto_region 21 with fail
          refine region_but_last (n := 6) (S := fun W => (W.cell? ⟨B11, 0, none⟩ = some (.bool s2) ∧ W.cell? ⟨B11, 1, none⟩ = some (.slice x2 l2 c2) ∧ W.cell? ⟨B11, 2, none⟩ = some (.slice x2' l2' c2')) ∧ (W.cell? ⟨B9, 0, none⟩ = some (.bool s1) ∧ W.cell? ⟨B9, 1, none⟩ = some (.slice x1 l1 c1) ∧ W.cell? ⟨B9, 2, none⟩ = some (.slice x1' l1' c1'))) (by kernel_rfl) (by kernel_rfl) (by kernel_rfl) (HKS.out _ hcur) (fun hHeld => ?_)
          refine wpAnyH_take (i := 0) (v := ?v0z) rfl (by kernel_rfl) (by kernel_rfl) (by kernel_rfl) (fun _ _ _ h => h) (Or.inl ⟨by rfl, ?hy0z⟩) (by assumption) ?rest0z
          case hy0z => (intro w hSw; (try dsimp only at hSw); go_simp <;> (try with_reducible rfl))
          simp only [Act.put]
          refine wpAnyH_take (i := 1) (v := ?v1z) rfl (by kernel_rfl) (by kernel_rfl) (by kernel_rfl) (fun _ _ _ h => h) (Or.inl ⟨by rfl, ?hy1z⟩) (by assumption) ?rest1z
          case hy1z => (intro w hSw; (try dsimp only at hSw); go_simp <;> (try with_reducible rfl))
          simp only [Act.put]
          refine wpAnyH_take (i := 2) (v := ?v2z) rfl (by kernel_rfl) (by kernel_rfl) (by kernel_rfl) (fun _ _ _ h => h) (Or.inl ⟨by rfl, ?hy2z⟩) (by assumption) ?rest2z
          case hy2z => (intro w hSw; (try dsimp only at hSw); go_simp <;> (try with_reducible rfl))
          simp only [Act.put]
          refine wpAnyH_ready (rs := [3]) (by kernel_rfl) (by simp) ?_
          refine AllReadyH.cons rfl (fun K hK => ?_) AllReadyH.nil
          go_simp
          refine (HTB.out _ _ _ (HLW.out _ hcur).2.rat (HLW.out _ hcur).2.rat).mono ?_
          rintro e w6 ⟨r1, rfl, hr1, hb6⟩
          have hcur := below_chain hcur hb6
          have HX1 := Hid.mk' hr1
          obtain ⟨t1, p1, m1, q1, p1', m1', q1', hr1e⟩ := hr1.sl
          subst hr1e
          clear hr1 hb6
          go_wp2_with fail
          refine hK.out _ _ ?_ (fun hHeld => ?_)
          · exact HKS.out _ hcur
          clear hK K
          refine wpAnyH_ready (rs := [4]) (by kernel_rfl) (by simp) ?_
          refine AllReadyH.cons rfl (fun K hK => ?_) AllReadyH.nil
          go_simp
          refine (HCM.out _ _ _ (HLW.out _ hcur).1.rat HX1.out).mono ?_
          rintro e w7 ⟨z, rfl, hz, hb7⟩
          have hcur := below_chain hcur hb7
          clear hb7
          go_wp2_with fail
          refine hK.out _ _ ?_ (fun hHeld => ?_)
          · exact HKS.out _ hcur
          clear hK K
          refine wpAnyH_take (i := 5) (v := ?v5z) rfl (by kernel_rfl) (by kernel_rfl) (by kernel_rfl) (fun _ _ _ h => h) (Or.inl ⟨by rfl, ?hy5z⟩) (by assumption) ?rest5z
          case hy5z => (intro w hSw; (try dsimp only at hSw); go_simp <;> (try with_reducible rfl))
          simp only [Act.put]
          refine wpAnyH_done (by kernel_rfl) ?_ _
          refine ahead_last rfl (fun K hK => ?_)
          go_simp
          refine hK _ _ ?_
          clear hK K
          have HBF := Hid.mk' (below_chain (below_chain (below_chain HB3.out HB.out) HBC.out) hcur)
          go_wp2_with fail
          go_ret
          exact ⟨by simp, HBF.out⟩
end Go.Proofs.YtgfejijaipggeaaDoor

/- What the rows' condition on package variables gives a walk: eight different sentinels with their texts, and the handle of the type error; the tables of unicode/utf8 are listed besides. -/
namespace Go.Proofs.YtgfejijaipggeaaDoor
open Go.ChangeShapes Go.WideShapes Go.RowKit

theorem Tryd.own : ownKnob Tryd.prog.godebug = none := by kernel_rfl
theorem Tryd.et : Tryd.prog.globalNamed "errors.errorType" = some 8 := by kernel_rfl
theorem Tryd.rt : (Tryd.prog.cutTypes.find? (·.1 == "internal/reflectlite.rtype")).map (·.2) = some 154 := by kernel_rfl
theorem Tryd.oneRow : ((List.range 214).filter fun t => Tryd.prog.rowNamed t [101, 114, 114, 111, 114]) = [31] := by kernel_rfl
theorem Tryd.size : Tryd.prog.types.size = 214 := by kernel_rfl
theorem Tryd.star : ("*" ++ "errors.errorString" : String) = "*errors.errorString" := by decide
theorem Tryd.rowE (u : TypeId) (h : Tryd.prog.typeName? 3 u = some "*errors.errorString") : u = 182 :=
  typeName_ptr_named (nm := "errors.errorString") (by rw [Tryd.star]; kernel_rfl) (by kernel_rfl) (by decide) u (by rw [Tryd.star]; exact h)
theorem Tryd.cellsE : Tryd.prog.cellsOf 203 = 1 := by kernel_rfl
theorem Tryd.cellsS : Tryd.prog.cellsOf 9 = 1 := by kernel_rfl
theorem Tryd.g0 : Tryd.prog.globalNamed "demon/api.ErrText" = some 3 := by kernel_rfl
theorem Tryd.g1 : Tryd.prog.globalNamed "demon/api.ErrBound" = some 0 := by kernel_rfl
theorem Tryd.g2 : Tryd.prog.globalNamed "demon/api.ErrShape" = some 1 := by kernel_rfl
theorem Tryd.g3 : Tryd.prog.globalNamed "demon/api.ErrZero" = some 2 := by kernel_rfl
theorem Tryd.g4 : Tryd.prog.globalNamed "demon/api.ErrName" = some 4 := by kernel_rfl
theorem Tryd.g5 : Tryd.prog.globalNamed "demon/api.ErrNone" = some 5 := by kernel_rfl
theorem Tryd.g6 : Tryd.prog.globalNamed "demon/api.ErrOrder" = some 6 := by kernel_rfl
theorem Tryd.g7 : Tryd.prog.globalNamed "demon/api.ErrKind" = some 7 := by kernel_rfl

/-- Any number of listed sentinels of one type: each one's pointer, text and row; no two are one. -/
theorem laid_list {P : Program} {W : World} {nm : String} {ti tp te ts : TypeId} {ms : Array (String × TypeId)} {f : Field}
    (hi : P.underlying ti = some (.interface ms)) (hrow : ∀ u, P.typeName? 3 u = some nm → u = tp)
    (hp : P.underlying tp = some (.pointer te)) (he : P.underlying te = some (.struct #[f])) (hft : f.type = ts) (hfo : f.offset = 0) (hs : P.underlying ts = some .string) (hc : P.cellsOf te = 1) (hcs : P.cellsOf ts = 1) :
    ∀ (L : List (String × List UInt8)) (ps : List MemPlace), (∀ x, x ∈ L → ∃ g, P.globalNamed x.1 = some g ∧ (P.globals[g]?).map (·.type) = some ti) →
      DataW.LaidVars P W (L.map fun x => (x.1, .iface nm (.ptr (.agg [.lit (.string x.2)])))) ps → ps.Nodup →
      (∀ b off, MemPlace.cell b off ∈ ps → (∃ c t, W.heap[b]? = some (.cells c t (0, 0))) ∧ ∀ u v, W.cell? ⟨b, off, none⟩ = some (.iface u v) → Value.okWide P W .any 0 u v) →
      ∃ a : Nat → Addr, (∀ i x, L[i]? = some x → W.var? P x.1 = some #[.iface tp (.pointer (some (a i)))] ∧ (∃ s, W.cell? (a i) = some (.string s) ∧ s.data.toList = x.2) ∧
          (∃ c t, W.heap[(a i).block]? = some (.cells c t (0, 0))) ∧ MemPlace.cell (a i).block (a i).off ∈ ps) ∧
        ∀ i j, i < L.length → j < L.length → i ≠ j → a i ≠ a j := by
  intro L
  induction L with
  | nil => intro ps _ _ _ _; exact ⟨fun _ => default, fun i x h => by simp at h, fun i j h => by simp at h⟩
  | cons x r ih =>
    intro ps hgs hv hnd hrows
    obtain ⟨n, text⟩ := x
    obtain ⟨g0, t0, cs0, f0, p0, q0, hg0, ht0, hv0, hd0, hvr, e0⟩ := hv
    obtain ⟨g, hg, ht⟩ := hgs (n, text) (List.mem_cons_self ..)
    obtain rfl := Option.some.inj (hg.symm.trans hg0)
    obtain rfl := Option.some.inj (ht.symm.trans ht0)
    subst e0
    obtain ⟨l0⟩ := cs0
    have ok0 : ∀ u v, l0 = [.iface u v] → Value.okWide P W .any 0 u v := fun u v e => by
      subst e
      exact (hrows g 0 (by simp [MemPlace.row])).2 u v (by simpa using World.var?_cell hg0 hv0 0)
    obtain ⟨a0, s0, rfl, hc0, hs0, hz0, rfl⟩ := errorString_of_trod hi hrow hp he hft hfo hs hc hcs hd0 ok0
    obtain ⟨c0, tt0, hb0⟩ := (hrows a0.block a0.off (by simp [MemPlace.row])).1
    have hnq : q0.Nodup := List.Nodup.sublist (List.sublist_append_right _ _) hnd
    obtain ⟨a', ha', hne'⟩ := ih q0 (fun x hx => hgs x (List.mem_cons_of_mem _ hx)) hvr hnq (fun b off hm => hrows b off (List.mem_append_right _ hm))
    have hnot : MemPlace.cell a0.block a0.off ∉ q0 := by
      intro hm
      have := (List.nodup_append.1 hnd).2.2
      exact this (.cell a0.block a0.off) (by simp [MemPlace.row]) (.cell a0.block a0.off) hm rfl
    refine ⟨fun i => match i with | 0 => a0 | k + 1 => a' k, ?_, ?_⟩
    · intro i x hx
      cases i with
      | zero =>
        simp only [List.getElem?_cons_zero, Option.some.injEq] at hx
        subst hx
        exact ⟨hv0, ⟨s0, hc0, hs0⟩, ⟨c0, tt0, hb0⟩, by simp [MemPlace.row]⟩
      | succ k =>
        simp only [List.getElem?_cons_succ] at hx
        obtain ⟨h1, h2, h3, h4⟩ := ha' k x hx
        exact ⟨h1, h2, h3, List.mem_append_right _ h4⟩
    · have far : ∀ k, k < r.length → a0 ≠ a' k := fun k hk e => by
        obtain ⟨_, _, _, h4⟩ := ha' k r[k] (by simp [hk])
        rw [← e] at h4
        exact hnot h4
      intro i j hi' hj' hij
      cases i with
      | zero =>
        cases j with
        | zero => exact absurd rfl hij
        | succ k => exact far k (by simpa using hj')
      | succ m =>
        cases j with
        | zero => exact (far m (by simpa using hi')).symm
        | succ k => exact hne' m k (by simpa using hi') (by simpa using hj') (by omega)

/-- The names and texts, in the rows' order. -/
def eightNames : List (String × List UInt8) := [("demon/api.ErrText", [100, 101, 109, 111, 110, 58, 32, 116, 101, 120, 116]), ("demon/api.ErrBound", [100, 101, 109, 111, 110, 58, 32, 98, 111, 117, 110, 100]), ("demon/api.ErrShape", [100, 101, 109, 111, 110, 58, 32, 115, 104, 97, 112, 101]), ("demon/api.ErrZero", [100, 101, 109, 111, 110, 58, 32, 122, 101, 114, 111]), ("demon/api.ErrName", [100, 101, 109, 111, 110, 58, 32, 110, 97, 109, 101]), ("demon/api.ErrNone", [100, 101, 109, 111, 110, 58, 32, 110, 111, 110, 101]), ("demon/api.ErrOrder", [100, 101, 109, 111, 110, 58, 32, 111, 114, 100, 101, 114]), ("demon/api.ErrKind", [100, 101, 109, 111, 110, 58, 32, 107, 105, 110, 100])]
def laidAll : List (String × DataW Unit) := [("unicode/utf8.acceptRanges", Rows.laid_unicode_utf8_acceptRanges), ("errors.errorType", Rows.laid_errors_errorType), ("demon/api.ErrText", Rows.laid_demon_api_ErrText), ("demon/api.ErrBound", Rows.laid_demon_api_ErrBound), ("demon/api.ErrShape", Rows.laid_demon_api_ErrShape), ("demon/api.ErrZero", Rows.laid_demon_api_ErrZero), ("demon/api.ErrName", Rows.laid_demon_api_ErrName), ("demon/api.ErrNone", Rows.laid_demon_api_ErrNone), ("demon/api.ErrOrder", Rows.laid_demon_api_ErrOrder), ("demon/api.ErrKind", Rows.laid_demon_api_ErrKind), ("unicode/utf8.first", Rows.laid_unicode_utf8_first)]
theorem laidAll_parts (W : World) : laidMetH Tryd.prog laidAll W = (laidMet Tryd.prog ([("unicode/utf8.acceptRanges", Rows.laid_unicode_utf8_acceptRanges)] ++ ((eightNames.map fun x => (x.1, .iface "*errors.errorString" (.ptr (.agg [.lit (.string x.2)])))) ++ [("unicode/utf8.first", Rows.laid_unicode_utf8_first)])) W ∧ handlesMet Tryd.prog [("errors.errorType", Rows.laid_errors_errorType)] W) := by kernel_rfl

theorem var_at {W : World} {n : String} {g : Nat} {v : Value} (hg : Tryd.prog.globalNamed n = some g) (h : W.var? Tryd.prog n = some #[v]) : W.cell? ⟨g, 0, none⟩ = some v := by
  simpa using World.var?_cell hg h 0

theorem laid_tail {P : Program} {W : World} {x : String × DataW Unit} {L : List (String × DataW Unit)} (h : laidMet P (x :: L) W) : laidMet P L W := by
  obtain ⟨n, d⟩ := x
  obtain ⟨ps, hv, hnd, hrows⟩ := h
  obtain ⟨g, t, cs, f, p, q, _, _, _, _, hvr, e⟩ := hv
  subst e
  exact ⟨q, hvr, List.Nodup.sublist (List.sublist_append_right _ _) hnd, fun b off hm => hrows b off (List.mem_append_right _ hm)⟩
theorem vars_front {P : Program} {W : World} : ∀ (L B : List (String × DataW Unit)) (ps : List MemPlace), DataW.LaidVars P W (L ++ B) ps → ∃ p1 p2, ps = p1 ++ p2 ∧ DataW.LaidVars P W L p1
  | [], B, ps, _ => ⟨[], ps, rfl, rfl⟩
  | (n, d) :: L, B, ps, h => by
    obtain ⟨g, t, cs, f, p, q, h1, h2, h3, h4, hvr, e⟩ := h
    obtain ⟨p1, p2, e2, h5⟩ := vars_front L B q hvr
    exact ⟨(MemPlace.row ⟨g, 0, none⟩ cs.size ++ p) ++ p1, p2, by rw [e, e2, ← List.append_assoc], g, t, cs, f, p, p1, h1, h2, h3, h4, h5, rfl⟩
theorem laid_front {P : Program} {W : World} {L B : List (String × DataW Unit)} (h : laidMet P (L ++ B) W) : laidMet P L W := by
  obtain ⟨ps, hv, hnd, hrows⟩ := h
  obtain ⟨p1, p2, e, h5⟩ := vars_front L B ps hv
  subst e
  exact ⟨p1, h5, List.Nodup.sublist (List.sublist_append_left _ _) hnd, fun b off hm => hrows b off (List.mem_append_left _ hm)⟩
theorem errs_of_laid {W : World} (h : laidMetH Tryd.prog laidAll W) : ∃ a : Nat → Addr, Errs W a ∧ ∀ i x, eightNames[i]? = some x → ∃ s, W.cell? (a i) = some (.string s) ∧ s.data.toList = x.2 := by
  rw [laidAll_parts] at h
  obtain ⟨hl0, hh⟩ := h
  obtain ⟨ps, hv, hnd, hrows⟩ := laid_front (L := eightNames.map fun x => (x.1, .iface "*errors.errorString" (.ptr (.agg [.lit (.string x.2)])))) (laid_tail hl0)
  obtain ⟨name, u, ty, e1, e2, e3, e4, e5⟩ := hh _ (List.mem_singleton.2 rfl)
  have en : name = [101, 114, 114, 111, 114] := (Option.some.inj e1).symm
  subst en
  obtain rfl := Option.some.inj (Tryd.rt.symm.trans e2)
  have hm : ty ∈ (List.range 214).filter fun t => Tryd.prog.rowNamed t [101, 114, 114, 111, 114] := List.mem_filter.2 ⟨List.mem_range.2 (by rw [← Tryd.size]; exact e3), e4⟩
  rw [Tryd.oneRow] at hm
  obtain rfl := List.mem_singleton.1 hm
  have hth : typeHandle Tryd.prog 31 = .pointer (some ⟨12, 31, none⟩) := by kernel_rfl
  rw [hth] at e5
  obtain ⟨a, ha, hne⟩ := laid_list Tryd.underlying31 Tryd.rowE Tryd.underlying182 Tryd.underlying203 rfl rfl Tryd.underlying9 Tryd.cellsE Tryd.cellsS eightNames ps
    (fun x hx => by
      simp only [eightNames, List.mem_cons, List.not_mem_nil, or_false] at hx
      rcases hx with rfl | rfl | rfl | rfl | rfl | rfl | rfl | rfl
      · exact ⟨_, Tryd.g0, by kernel_rfl⟩
      · exact ⟨_, Tryd.g1, by kernel_rfl⟩
      · exact ⟨_, Tryd.g2, by kernel_rfl⟩
      · exact ⟨_, Tryd.g3, by kernel_rfl⟩
      · exact ⟨_, Tryd.g4, by kernel_rfl⟩
      · exact ⟨_, Tryd.g5, by kernel_rfl⟩
      · exact ⟨_, Tryd.g6, by kernel_rfl⟩
      · exact ⟨_, Tryd.g7, by kernel_rfl⟩) hv hnd hrows
  refine ⟨a, ⟨var_at Tryd.g0 (ha 0 _ rfl).1, var_at Tryd.g1 (ha 1 _ rfl).1, var_at Tryd.g2 (ha 2 _ rfl).1, var_at Tryd.g3 (ha 3 _ rfl).1, var_at Tryd.g4 (ha 4 _ rfl).1, var_at Tryd.g5 (ha 5 _ rfl).1, var_at Tryd.g6 (ha 6 _ rfl).1, var_at Tryd.g7 (ha 7 _ rfl).1, var_at Tryd.et e5, ?_, ?_⟩, fun i x hx => (ha i x hx).2.1⟩
  · intro i hi
    have hl : eightNames.length = 8 := rfl
    exact (ha i eightNames[i] (List.getElem?_eq_getElem (by omega))).2.2.1
  · intro i j hi hj hij
    exact hne i j hi hj hij

/-- The door's own heap meets the condition. -/
theorem door_met (os : Os) (args : Array Value) : laidMetH Tryd.prog laidAll ((World.layVars Tryd.prog (World.doorLaid Tryd.prog 178 os) [("unicode/utf8.first", Rows.laid_unicode_utf8_first)]).forCall (fun _ _ => 0) ⟨#[], args, []⟩).memory :=
  laidMetH_of_parts3 (fuel := 8) (laidMet_of_run' 8 (by kernel_rfl) (by kernel_rfl)) (by kernel_rfl) (by kernel_rfl)
end Go.Proofs.YtgfejijaipggeaaDoor

/- A parameter of type []int opened. -/
namespace Go.Proofs.YtgfejijaipggeaaDoor
open Go.ChangeShapes Go.WideShapes Go.ChangeAt Go.RowKit Go.Joins Go.Deep

theorem Tryd.laidOut : laidOutB Tryd.prog = true := by kernel_rfl
theorem Tryd.cellsInt : Tryd.prog.cellsOf 3 = 1 := by kernel_rfl
theorem Tryd.cellsInts : Tryd.prog.cellsOf 22 = 1 := by kernel_rfl

set_option maxRecDepth 100000 in
/-- What a parameter of type []int gives: its slice, its numbers. -/
theorem open_nums {H : Type} {enc : TypeId × Value → H} {W : World} {base : Nat} {v : Value} {d : DataW H} {p : List MemPlace} (hv : Value.okWide Tryd.prog W .any base 22 v)
    (h : DataW.Trod enc Tryd.prog W 0 (fun _ => true) true 22 v d p) :
    ∃ (ad : Option Addr) (n cap : Nat) (z : Nat → Int), v = .slice ad n cap ∧ n ≤ maxLen ∧ NumsAt W (.slice ad n cap) n z := by
  obtain ⟨ad, n, cap, rfl⟩ := okWide_slice Tryd.underlying22 hv
  obtain ⟨fuel, hf⟩ := h
  rcases open_ints Tryd.underlying22 Tryd.underlying3 Tryd.cellsInt hf with ⟨hc, _⟩ | ⟨a, len, cap', zs, hc, _, hl, hm, hz, _, hcell, _⟩
  · simp [Value.cells] at hc
    obtain ⟨rfl, rfl, rfl⟩ := hc
    exact ⟨none, 0, 0, fun _ => 0, rfl, Nat.zero_le _, Or.inl ⟨none, 0, rfl, rfl⟩⟩
  · simp [Value.cells] at hc
    obtain ⟨rfl, rfl, rfl⟩ := hc
    simp only [if_true] at hz
    rcases Nat.eq_zero_or_pos n with rfl | hpos
    · exact ⟨some a, 0, cap, fun _ => 0, rfl, Nat.zero_le _, Or.inl ⟨some a, cap, rfl, rfl⟩⟩
    · obtain ⟨b, o, spot⟩ := a
      have hspot : spot = none := by simpa [Addr.add] using World.cell?_spot (hcell 0 (by omega))
      subst hspot
      refine ⟨_, n, cap, fun i => zs.getD i 0, rfl, by omega, Or.inr ⟨b, o, cap, rfl, hpos, fun i hi => ?_⟩⟩
      have := hcell i (by omega)
      rw [Go.Proofs.YtgfejijaipggeaaDoor.add_plain] at this
      exact this
end Go.Proofs.YtgfejijaipggeaaDoor
