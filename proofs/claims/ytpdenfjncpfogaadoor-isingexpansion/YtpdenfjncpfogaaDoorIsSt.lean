/- ising.States. -/
import Derived.Test.YtpdenfjncpfogaaDoorIsDoc
import Derived.Test.YtpdenfjncpfogaaDoorIsBits
import Derived.Test.YtpdenfjncpfogaaDoorSameN
namespace Go.Proofs.YtpdenfjncpfogaaDoor
open Go.RowKit

/-- The numbers of a bond that is right, as they are counted. -/
def nP (p : Nat → Int) (i : Nat) : Nat := (p i).toNat
theorem nP_cast {p : Nat → Int} {i : Nat} (h : 0 ≤ p i) : p i = ((nP p i : Nat) : Int) := by unfold nP; omega

theorem States_bad (a : Nat → Addr) (N : Int) (m : Nat) (ev : Value) (p q : Nat → Int) (w : World) (hE : Errs w a) (hG : EdAt w ev m p q) (hm : m ≤ 1000) (hb : syE N m p q ≠ 0) :
    Calls Tryd.prog 16 #[.agg #[.int .i64 N, ev]] w fun e w' => e = .returned (.tuple #[.slice none 0 0, errV a (syE N m p q)]) ∧ Below w.heap.size w w' := by
  obtain ⟨ad, cap, rfl, -⟩ := id hG
  obtain ⟨w1, hw1⟩ : ∃ w1, w1 = w.alloc (.cells #[.int .i64 N, .slice ad m cap] 51) := ⟨_, rfl⟩
  have hb1 : Below w.heap.size w w1 := by rw [hw1]; exact (Below.refl _ _).alloc (Nat.le_refl _) _
  have hc0 : w1.cell? ⟨w.heap.size, 0, none⟩ = some (.int .i64 N) := by rw [hw1]; go_simp
  have hc1 : w1.cell? ⟨w.heap.size, 1, none⟩ = some (.slice ad m cap) := by rw [hw1]; go_simp
  have HV := Hid.mk' (IValid_any a N m _ p q w1 (hE.below hb1) (hG.later hb1) hm)
  have HW1 := Hid.mk' hw1
  have HB1 := Hid.mk' hb1
  have hR := errV_pos a hb
  rw [hR] at HV ⊢
  clear hE hG hb1 hw1
  generalize a (syE N m p q - 1) = EA at *
  clear hR
  go_enter Tryd.func16, Tryd.ntmps16
  go_upto_region 1 with fail
  rw [← HW1.out]
  go_wp2_with fail
  refine HV.out.mono ?_
  rintro e w2 ⟨rfl, hb2⟩
  have HB2 := Hid.mk' (below_chain HB1.out hb2)
  clear hb2 HV hc0 hc1
  go_wp2_with fail
  go_ret2
  exact ⟨rfl, HB2.out⟩
theorem Fills.later {w wr w' : World} {g T : Nat} {f : Nat → Int} (h : Fills w wr g T f) (hb : Below wr.heap.size wr w') : Fills w w' g T f :=
  ⟨h.row.later hb, fun i hi => by rw [hb.frozen (cell_lt (h.row i hi))]; exact h.fz i hi, h.below.trans (hb.mono h.below.size), h.hg⟩
theorem Fills.congr {w wr : World} {g T : Nat} {f f' : Nat → Int} (h : Fills w wr g T f) (hf : ∀ i, i < T → f i = f' i) : Fills w wr g T f' :=
  ⟨fun i hi => by rw [← hf i hi]; exact h.row i hi, h.fz, h.below, h.hg⟩
/-- One more at a place. -/
theorem Fills.inc {w wr : World} {g T : Nat} {f : Nat → Nat} {u : Nat} (h : Fills w wr g T (fun k => ((f k : Nat) : Int))) (hu : u < T) : Fills w (wr.setCell ⟨g, u, none⟩ (.int .i64 ((f u : Int) + 1))) g T (fun k => ((f k + (if u = k then 1 else 0) : Nat) : Int)) :=
  h.set hu _ (fun i _ => by
    by_cases e : i = u
    · subst e; rw [if_pos rfl, if_pos rfl]; omega
    · rw [if_neg e, if_neg (fun e' => e e'.symm)]; omega)
/-- What a bond's two ends tell of a state. -/
theorem un_facts (s P Q : Nat) (hs : s < 16384) : ∃ x y z u : Nat, (s : Int) / 2 ^ P = (x : Int) ∧ (s : Int) / 2 ^ Q = (y : Int) ∧ bits .xor .i64 (x : Int) (y : Int) = (z : Int) ∧ bits .and .i64 (z : Int) 1 = (u : Int) ∧ u = unB s P Q := by
  have h1 := shr_le s P
  have h2 := shr_le s Q
  have h3 : s >>> P ^^^ s >>> Q < 2 ^ 14 := Nat.xor_lt_two_pow (by omega) (by omega)
  refine ⟨s >>> P, s >>> Q, s >>> P ^^^ s >>> Q, unB s P Q, shr_nat _ _, shr_nat _ _, i64_xorN _ _ (by omega) (by omega), ?_, rfl⟩
  exact i64_andN _ 1 (by omega) (by omega)

set_option maxRecDepth 100000 in
set_option maxHeartbeats 4000000 in
theorem States_ok (a : Nat → Addr) (n m : Nat) (ev : Value) (p q : Nat → Nat) (w : World) (hE : Errs w a) (hG : EdAt w ev m (fun i => (p i : Int)) (fun i => (q i : Int))) (hn : n ≤ 14) (hm : m ≤ 30) (hpq : ∀ i, i < m → p i < n ∧ q i < n ∧ p i ≠ q i) :
    Calls Tryd.prog 16 #[.agg #[.int .i64 n, ev]] w fun e w' => ∃ g, e = .returned (.tuple #[.slice (some ⟨g, 0, none⟩) (m + 1) (m + 1), .nilIface]) ∧ Fills w w' g (m + 1) (fun k => ((stK p q n m k : Nat) : Int)) := by
  obtain ⟨i0, hi, hz0, hz1, hz2⟩ := info_parts Tryd.infoInt
  have HINF : Hid (Tryd.prog.info? 3 = some i0 ∧ i0.zero = some (.int .i64 0) ∧ i0.size = 1 ∧ i0.bytes = 8) := ⟨hi, hz0, hz1, hz2⟩
  clear hi hz0 hz1 hz2
  obtain ⟨ad, cap, rfl, -⟩ := id hG
  have hE0 : syE (n : Int) m (fun i => (p i : Int)) (fun i => (q i : Int)) = 0 := by
    unfold syE
    rw [if_neg (by omega), if_pos]
    apply bdsB_of
    intro i hi
    have := hpq i hi
    simp [bdB, hasB]
    omega
  obtain ⟨w1, hw1⟩ : ∃ w1, w1 = w.alloc (.cells #[.int .i64 n, .slice ad m cap] 51) := ⟨_, rfl⟩
  have hb1 : Below w.heap.size w w1 := by rw [hw1]; exact (Below.refl _ _).alloc (Nat.le_refl _) _
  have hc0 : w1.cell? ⟨w.heap.size, 0, none⟩ = some (.int .i64 n) := by rw [hw1]; go_simp
  have hc1 : w1.cell? ⟨w.heap.size, 1, none⟩ = some (.slice ad m cap) := by rw [hw1]; go_simp
  have HC : Hid (∀ W, Below w1.heap.size w1 W → W.cell? ⟨w.heap.size, 0, none⟩ = some (.int .i64 n) ∧ W.cell? ⟨w.heap.size, 1, none⟩ = some (.slice ad m cap)) := fun W hb => ⟨by rw [hb.cell (cell_lt hc0)]; exact hc0, by rw [hb.cell (cell_lt hc1)]; exact hc1⟩
  have HV := Hid.mk' (IValid_any a n m _ _ _ w1 (hE.below hb1) (hG.later hb1) (by omega))
  rw [hE0, errV_zero] at HV
  have HG := Hid.mk' (hG.later hb1)
  have HW1 := Hid.mk' hw1
  have HB1 := Hid.mk' hb1
  have HPQ := Hid.mk' hpq
  have hnI : (n : Int) ≤ 14 := by omega
  have hn0 : (0 : Int) ≤ (n : Int) := by omega
  have hmI : (m : Int) ≤ 30 := by omega
  have hm0 : (0 : Int) ≤ (m : Int) := by omega
  have hsh : IntKind.i64.wrap (2 ^ n : Int) = (2 ^ n : Int) := shl_wrap n (by omega)
  have HT : Hid (2 ^ n ≤ 16384) := Nat.pow_le_pow_right (n := 2) (by decide) hn
  clear hE hG hb1 hw1 hpq hE0
  go_enter Tryd.func16, Tryd.ntmps16
  go_upto_region 1 with fail
  rw [← HW1.out]
  go_wp2_with fail
  refine HV.out.mono ?_
  rintro e w2 ⟨rfl, hb2⟩
  have HB2 := Hid.mk' hb2
  clear HV hc0 hc1
  obtain ⟨c0, c1⟩ := HC.out _ hb2
  clear hb2
  go_wp2_with (at_make; go_must (refine wpList_make_full _ rfl _ _ _ rfl w2.heap.size 3 i0 _ 1 Tryd.underlying22 HINF.out.1 HINF.out.2.1 HINF.out.2.2.1 .i64 .i64 _ _ (m + 1) rfl rfl (by go_num) (by go_num) (by rw [HINF.out.2.2.2]; omega) (by unfold maxLen; omega) (Nat.le_refl _) ?_; intro w3 hown3 hgrow3; have HF3 := Hid.mk' (fills_made hown3 (made_zero (m + 1)) hgrow3); clear hown3 hgrow3; obtain ⟨k0, k1⟩ := HC.out w3 (below_chain HB2.out HF3.out.below); clear c0 c1))
  have HG3 := Hid.mk' (HG.out.later (below_chain HB2.out HF3.out.below))
  have HC3 : Hid (∀ W, Below w2.heap.size w2 W → W.cell? ⟨w.heap.size, 0, none⟩ = some (.int .i64 n) ∧ W.cell? ⟨w.heap.size, 1, none⟩ = some (.slice ad m cap)) := fun W hb => HC.out W (below_chain HB2.out hb)
  have HG3 : Hid (∀ W, Below w2.heap.size w2 W → EdAt W (.slice ad m cap) m (fun i => (p i : Int)) (fun i => (q i : Int))) := fun W hb => (HG.out.later HB2.out).later hb
  have HEND : Hid (∀ W, Below w2.heap.size w2 W → Below w.heap.size w W) := fun W hb => below_chain HB1.out (below_chain HB2.out hb)
  have HGE : Hid (w.heap.size ≤ w2.heap.size) := (below_chain HB1.out HB2.out).size
  clear HG HC HB1 HB2 k0 k1
  obtain ⟨T2, hT2⟩ : ∃ T2 : Nat, T2 = 2 ^ n := ⟨_, rfl⟩
  have hTI : (2 ^ n : Int) = (T2 : Int) := by rw [hT2]; simp
  have HT2 := Hid.mk' hT2
  have hT3 : T2 ≤ 16384 := by rw [hT2]; exact HT.out
  rw [hTI]
  clear hT2 hTI hsh
  go_loopw [23] (fun i wr => ∃ s : Nat, s ≤ T2 ∧ i = .int .i64 s ∧ Hid (Fills w2 wr w2.heap.size (m + 1) (fun k => ((cntK (fun s => unl p q s m) k s : Nat) : Int)))) (fun i _ => T2 - (intOf i).toNat)
  case atStart => exact ⟨0, Nat.zero_le _, rfl, HF3⟩
  case round =>
    clear HF3
    obtain ⟨s, hs, rfl, HF⟩ := hrel
    have hs0 : (0 : Int) ≤ (s : Int) := by omega
    rcases Nat.lt_or_ge s T2 with h1 | h1
    · have hsI : (s : Int) < (T2 : Int) := by omega
      obtain ⟨c0, c1⟩ := HC3.out _ HF.out.below
      obtain ⟨fT, hfT⟩ : ∃ fT, fT = (fun k => cntK (fun s => unl p q s m) k s) := ⟨_, rfl⟩
      have HNX : Hid (∀ k, cntK (fun s => unl p q s m) k (s + 1) = fT k + if unl p q s m = k then 1 else 0) := fun k => by rw [hfT]; rfl
      have HLE : Hid (∀ k, fT k ≤ 16384) := fun k => by rw [hfT]; have := cntK_le (fun s => unl p q s m) k s; exact Nat.le_trans this (by omega)
      have HF' : Hid (Fills w2 wr w2.heap.size (m + 1) (fun k => ((fT k : Nat) : Int))) := by show Fills _ _ _ _ _; rw [hfT]; exact HF.out
      clear hfT HF
      go_wp2_with fail
      clear c0 c1
      go_loopw [7, 29] (fun u i wr => ∃ k : Nat, k ≤ m ∧ i = .int .i64 k ∧ u = .int .i64 (unl p q s k : Nat) ∧ Hid (Fills w2 wr w2.heap.size (m + 1) (fun k => ((fT k : Nat) : Int)))) (fun _ i _ => m - (intOf i).toNat)
      case atStart => exact ⟨0, Nat.zero_le _, rfl, rfl, HF'⟩
      case round =>
        clear HF'
        obtain ⟨k, hk, rfl, rfl, HF⟩ := hrel
        have hk0 : (0 : Int) ≤ (k : Int) := by omega
        have HU := Hid.mk' (unl_le p q s k)
        rcases Nat.lt_or_ge k m with h2 | h2
        · have hkm : (k : Int) < (m : Int) := by omega
          obtain ⟨b, o, rfl, hT⟩ := (HG3.out _ HF.out.below).at h2
          have e0 : wr.cell? ⟨b, o + k * 2, none⟩ = some (.int .i64 ((p k : Nat) : Int)) := (hT k h2).1
          have e1 : wr.cell? ⟨b, o + k * 2 + 1, none⟩ = some (.int .i64 ((q k : Nat) : Int)) := (hT k h2).2
          have hP := (HPQ.out k h2).1
          have hQ := (HPQ.out k h2).2.1
          obtain ⟨x, y, z, u, fx, fy, fz, fu, hu⟩ := un_facts s (p k) (q k) (by omega)
          have HN : Hid (unl p q s (k + 1) = unl p q s k + u) := by show _ = _; rw [hu]; rfl
          have hu1 : u ≤ 1 := by rw [hu]; exact unB_le _ _ _
          clear hu hT
          have hU30 : unl p q s k ≤ 30 := by have := HU.out; omega
          generalize unl p q s k = U at *
          have hPI : ((p k : Nat) : Int) ≤ 13 := by omega
          have hQI : ((q k : Nat) : Int) ≤ 13 := by omega
          have hP0 : (0 : Int) ≤ ((p k : Nat) : Int) := by omega
          have hQ0 : (0 : Int) ≤ ((q k : Nat) : Int) := by omega
          generalize p k = P at *
          generalize q k = Q at *
          have HF2 := Hid.mk' (HF.out.later ((Below.refl _ _).alloc (Nat.le_refl _) (.cells #[.int .i64 (P : Int), .int .i64 (Q : Int)] 57)))
          clear HF
          have c0 : (wr.alloc (.cells #[.int .i64 (P : Int), .int .i64 (Q : Int)] 57)).cell? ⟨wr.heap.size, 0, none⟩ = some (.int .i64 (P : Int)) := by go_simp
          have c1 : (wr.alloc (.cells #[.int .i64 (P : Int), .int .i64 (Q : Int)] 57)).cell? ⟨wr.heap.size, 1, none⟩ = some (.int .i64 (Q : Int)) := by go_simp
          have HCC := Hid.mk' (And.intro c0 c1)
          clear c0 c1
          go_wp2_with fail
          clear e0 e1
          generalize wr.alloc (.cells #[.int .i64 (P : Int), .int .i64 (Q : Int)] 57) = Wa at *
          generalize wr.heap.size = E0 at *
          obtain ⟨c0, c1⟩ := HCC.out
          go_quiet (fail)
          have HF3 := Hid.mk' (HF2.out.later (below_drewN (Below.refl _ _) nq))
          generalize Wa.drewN nq = Wq at *
          clear c0 c1 HF2
          go_wp2_with fail
          refine ⟨⟨k + 1, h2, by go_num, ?_, HF3⟩, by simp [intOf]; omega⟩
          rw [HN.out]
          go_num
        · obtain rfl : k = m := by omega
          have hkm : ¬ ((k : Int) < (k : Int)) := by omega
          have hU30 : unl p q s k ≤ 30 := by have := HU.out; omega
          have HNX2 := Hid.mk' HNX.out
          have HUk := HU.out
          clear HU
          generalize unl p q s k = U at *
          have cu := HF.out.row U (by omega)
          have fu := HF.out.fz U (by omega)
          rw [Nat.zero_add] at cu fu
          have hUk : (U : Int) ≤ (k : Int) := by omega
          have hU0 : (0 : Int) ≤ (U : Int) := by omega
          have HN := Hid.mk' (HF.out.inc (u := U) (by omega))
          have hle := HLE.out U
          have hleI : ((fT U : Nat) : Int) ≤ 16384 := by omega
          have hle0 : (0 : Int) ≤ ((fT U : Nat) : Int) := by omega
          clear hle
          go_wp2_with fail
          refine ⟨⟨s + 1, h1, by go_num, ?_⟩, by simp [intOf]; omega⟩
          refine Fills.congr HN.out (fun i _ => ?_)
          rw [HNX2.out i]
    · obtain rfl : s = T2 := by omega
      have hsI : ¬ ((s : Int) < (s : Int)) := by omega
      go_wp2_with fail
      go_ret2
      refine ⟨_, rfl, ?_⟩
      have h2 := HF.out
      refine ⟨fun i hi => ?_, h2.fz, HEND.out _ h2.below, Nat.le_trans HGE.out h2.hg⟩
      rw [h2.row i hi, stK, ← HT2.out]
end Go.Proofs.YtpdenfjncpfogaaDoor
