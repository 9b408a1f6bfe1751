/- The document's FlipsOf. -/
import Derived.Test.YtobmngkaoahmiaaDoorSmDoc
import Derived.Test.YtobmngkaoahmiaaDoorPackA
import Derived.Test.YtobmngkaoahmiaaDoorPackB
import Derived.Test.YtobmngkaoahmiaaDoorCode
import Derived.Test.YtobmngkaoahmiaaDoorWeights
import Derived.Test.YtobmngkaoahmiaaDoorSmThird
import Derived.Test.YtobmngkaoahmiaaDoorCopy
import Derived.Test.YtobmngkaoahmiaaDoorRows
import Derived.ChangeSame
import Derived.ChangeVars
import Derived.JoinedOf
import Derived.LaidLaws
import Derived.LaidHandle
import Derived.LaidMore
import Derived.Stop.Joined
import Derived.Lay
import Derived.Test.YtobmngkaoahmiaaDoorInts
import Derived.Test.YtobmngkaoahmiaaDoorCards
import Derived.Test.YtobmngkaoahmiaaDoorTie
import Derived.SevenTiedAt
import Derived.ProofKit
import Derived.OpenShut
import Derived.ChangeOld
import Derived.Lib.SmallJoins
import Derived.Deep.Matrix
namespace Go.Proofs.YtobmngkaoahmiaaDoor
open Go.RowKit

theorem mul_pow_part {l d D k : Nat} (h : d + k = D) : ((d * l : Nat) : Int) * ((2 ^ D : Nat) : Int) = ((d * (l * 2 ^ k) : Nat) : Int) * ((2 ^ d : Nat) : Int) := by
  have h1 : d * l * 2 ^ D = d * (l * 2 ^ k) * 2 ^ d := by
    rw [← h, Nat.pow_add, Nat.mul_comm (2 ^ d), ← Nat.mul_assoc, ← Nat.mul_assoc d l]
  exact_mod_cast h1
theorem set3_belowS {W0 W : World} {B n : Nat} (h : Below n W0 W) (hB : n ≤ B) (x y z : Value) : Below n W0 (((W.setCell ⟨B, 0, none⟩ x).setCell ⟨B, 1, none⟩ y).setCell ⟨B, 2, none⟩ z) := ((h.setCell hB _).setCell hB _).setCell hB _
theorem sml_of {M z : Nat} (h0 : 0 < M) (h1 : M ≤ 1000000) (h2 : z ≤ 1000000) : Sml M ((z : Nat) : Int) := by
  have h3 : 1000000 < 1000000 ^ 60 := by decide
  exact ⟨h0, by omega, by rw [Int.natAbs_natCast]; omega⟩
set_option maxRecDepth 100000 in
set_option maxHeartbeats 8000000 in
theorem FlipsOf_any (b o cap n S : Nat) (z : Nat → Int) (w : World) (h : RowAt w b o n z) (hok : OkW z n) (hS : sumN z n = (S : Int)) (hn : n ≤ 16) :
    Calls Tryd.prog 17 #[.slice (some ⟨b, o, none⟩) n cap] w fun e w' => ∃ r, e = .returned r ∧ LR w' r S ((flT (xT z n S) n (dpT S) (dpT S + 1) : Nat) : Int) ∧ Below w.heap.size w w' := by
  have hp := hok.pos
  have hl := hok.le
  obtain ⟨W0, hW0⟩ : ∃ W0, W0 = w.alloc (.cells #[.bool false, .slice none 0 0, .slice none 0 0] 43) := ⟨_, rfl⟩
  have hb0 : Below w.heap.size w W0 := by rw [hW0]; exact (Below.refl _ _).alloc (Nat.le_refl _) _
  have HRB : Hid (∀ W, Below W0.heap.size W0 W → RBox W w.heap.size false none 0 0 none 0 0 0 0) := fun W hb => by
    have h : RBox W0 w.heap.size false none 0 0 none 0 0 0 0 := by
      rw [hW0]; exact RBox.fresh (w := w) (n := 0) (d := 0) (s := false) ⟨_, _, rfl, big_none _, big_none _⟩
    exact h.later hb
  have hsz : w.heap.size < W0.heap.size := by rw [hW0]; simp
  have HEND : Hid (∀ W, Below W0.heap.size W0 W → Below w.heap.size w W) := fun W hb => hb0.trans (hb.mono hb0.size)
  have HSM := Hid.mk' (fun (W : World) (hb : Below w.heap.size w W) => by
    have h9 := Sum_some b o cap n z W (h.later hb) (sum_partsS hok).1 (sum_partsS hok).2 (by omega)
    rw [hS] at h9
    exact h9)
  have HPA := Hid.mk' (fun W => PowerAbove_any S W (by omega) (by omega))
  have HLV := Hid.mk' (fun (W : World) (d : Nat) (hb : Below w.heap.size w W) (hd : d ≤ dpT S) => LeavesAt_any b o cap n S d z W (h.later hb) hok hS hn hd)
  have hxs := xT_sum hok.nn hS
  have hP := dpT_pow (S := S) (by omega) (by omega)
  have HFL := Hid.mk' (fun k hk => flT_le (x := xT z n S) (n := n) (D := dpT S) (by omega) k hk)
  have HLP := Hid.mk' (fun k => leaf_part (xT z n S) k (n + 1))
  rw [hxs] at HLP
  have HLL := Hid.mk' (fun k => lvs_length (x := xT z n S) (k := k) (n + 1))
  have HPP := Hid.mk' hP
  have HD := Hid.mk' (dpT_le (S := S) (by omega) (by omega))
  have hS0 : 1 ≤ S := by omega
  have hS4 : S ≤ 4096 := by omega
  have HFE : Hid (∀ k, flT (xT z n S) n (dpT S) (k + 1) = flT (xT z n S) n (dpT S) k + k * ((lvs (xT z n S) (dpT S - k) (n + 1)).length * 2 ^ (dpT S - k))) := fun k => rfl
  have HF1 : Hid (flT (xT z n S) n (dpT S) 1 = 0) := by show 0 + 0 * _ = 0; rw [Nat.zero_mul]
  have HW0 := Hid.mk' hW0
  have HSZ := Hid.mk' hsz
  clear h hok hS hxs hW0 hP hp hl hsz
  generalize xT z n S = x at *
  generalize dpT S = D at *
  generalize flT x n D = fl at *
  have hD := HD.out
  have HP2 : Hid (∀ d, d ≤ D → 2 ^ d ≤ 4096) := fun d hd => Nat.le_trans (Nat.pow_le_pow_right (by decide) hd) HPP.out
  have HP0 : Hid (0 < 2 ^ D) := Nat.two_pow_pos D
  have HRO : Hid (∀ (W : World) (d l k : Nat), d + k = D → l ≤ 17 → Calls Tryd.prog 31 #[.int .i64 ((d : Int) * (l : Int)), .int .i64 ((2 ^ d : Nat) : Int)] W fun e w' => ∃ r, e = .returned r ∧ LR w' r (2 ^ D) ((d * (l * 2 ^ k) : Nat) : Int) ∧ Below W.heap.size W w') := fun W d l k hdk hl => by
    have h1 := HP2.out d (by omega)
    have h2 : d * l ≤ 12 * 17 := Nat.mul_le_mul (by omega) hl
    have h3 := RatioOf_to ((d * l : Nat) : Int) (2 ^ d) (2 ^ D) ((d * (l * 2 ^ k) : Nat) : Int) W (by omega) (by omega) (Nat.two_pow_pos d) (by omega) HP0.out (mul_pow_part hdk)
    rw [Int.natCast_mul d l] at h3
    exact h3
  have HPL : Hid (∀ (W : World) (u v : Value) (x1 x2 : Nat), LR W u (2 ^ D) (x1 : Int) → LR W v (2 ^ D) (x2 : Int) → x1 ≤ 1000000 → x2 ≤ 1000000 → Calls Tryd.prog 34 #[u, v] W fun e w' => ∃ r, e = .returned r ∧ LR w' r (2 ^ D) ((x1 + x2 : Nat) : Int) ∧ Below W.heap.size W w') := fun W u v x1 x2 hu hv h1 h2 =>
    RPlus_to u v (2 ^ D) (2 ^ D) (2 ^ D) x1 x2 ((x1 + x2 : Nat) : Int) W hu hv (sml_of HP0.out (by have := HPP.out; omega) h1) (sml_of HP0.out (by have := HPP.out; omega) h2) HP0.out (by rw [Int.natCast_add]; grind)
  have HRS : Hid (∀ (W : World), Calls Tryd.prog 31 #[.int .i64 ((2 ^ D : Nat) : Int), .int .i64 (S : Int)] W fun e w' => ∃ r, e = .returned r ∧ LR w' r S ((2 ^ D : Nat) : Int) ∧ Below W.heap.size W w') := fun W =>
    RatioOf_to ((2 ^ D : Nat) : Int) S S ((2 ^ D : Nat) : Int) W (Int.le_trans (by decide) (Int.natCast_nonneg _)) (by have h9 := HPP.out; generalize 2 ^ D = q9 at *; omega) hS0 (by omega) hS0 rfl
  have HTM : Hid (∀ (W : World) (u v : Value) (x1 : Nat), LR W u (2 ^ D) (x1 : Int) → LR W v S ((2 ^ D : Nat) : Int) → x1 ≤ 1000000 → Calls Tryd.prog 45 #[u, v] W fun e w' => ∃ r, e = .returned r ∧ LR w' r S (x1 : Int) ∧ Below W.heap.size W w') := fun W u v x1 hu hv h1 =>
    RTimes_to u v (2 ^ D) S S x1 ((2 ^ D : Nat) : Int) (x1 : Int) W hu hv (sml_of HP0.out (by have := HPP.out; omega) h1) (sml_of hS0 (by omega) (by have := HPP.out; omega)) hS0 (by grind)
  have HR0 : Hid (∀ (W : World), Calls Tryd.prog 31 #[.int .i64 0, .int .i64 1] W fun e w' => ∃ r, e = .returned r ∧ LR w' r (2 ^ D) ((fl 1 : Nat) : Int) ∧ Below W.heap.size W w') := fun W => by
    rw [HF1.out]
    exact RatioOf_to 0 1 (2 ^ D) 0 W (by decide) (by decide) (by decide) (by decide) HP0.out (by simp)
  have HPS : Hid (∀ d, 2 ^ (d + 1) = 2 ^ d * 2) := fun d => Nat.pow_succ 2 d
  have HB0 := Hid.mk' hb0
  clear hb0
  go_enter Tryd.func17, Tryd.ntmps17
  go_upto_region 1 with fail
  rw [← HW0.out]
  go_wp2_with fail
  refine (HSM.out _ HB0.out).mono ?_
  rintro e w2 ⟨rfl, hw2⟩
  rw [hw2]
  clear hw2
  go_wp2_with fail
  refine (HPA.out _).mono ?_
  rintro e w2 ⟨rfl, hw2⟩
  rw [hw2]
  clear hw2 HPA
  obtain ⟨P, hPe⟩ : ∃ P, P = 2 ^ D := ⟨_, rfl⟩
  rw [← hPe] at HPP HP0 HRO HPL HRS HTM HR0 HLP ⊢
  clear hPe
  go_wp2_with fail
  refine (HR0.out _).mono ?_
  rintro e w3 ⟨r3, rfl, hr3, hb3⟩
  obtain ⟨s3, x3, l3, c3, y3, m3, k3, rfl⟩ := hr3.sl
  have HL3 : Hid (LB (w3.alloc (.cells #[.bool s3, .slice x3 l3 c3, .slice y3 m3 k3] 43)) w3.heap.size P ((fl 1 : Nat) : Int)) := ⟨_, _, _, _, _, _, _, RBox.fresh hr3⟩
  have HB3 : Hid (Below W0.heap.size W0 (w3.alloc (.cells #[.bool s3, .slice x3 l3 c3, .slice y3 m3 k3] 43))) := hb3.alloc hb3.size _
  have HZ3 := Hid.mk' hb3.size
  clear hr3 hb3 HR0
  go_upto_region 3 with fail
  generalize w3.alloc (.cells #[.bool s3, .slice x3 l3 c3, .slice y3 m3 k3] 43) = W2 at HL3 HB3 ⊢
  generalize w3.heap.size = B at *
  go_wp2_with fail
  go_loopw [6, 7] (fun p t wr => ∃ d : Nat, 1 ≤ d ∧ d ≤ D + 1 ∧ p = .int .i64 ((2 ^ (d - 1) : Nat) : Int) ∧ t = .int .i64 d ∧ Hid (LB wr B P ((fl d : Nat) : Int)) ∧ Hid (Below W0.heap.size W0 wr)) (fun _ t _ => D + 1 - (intOf t).toNat)
  case atStart => exact ⟨1, Nat.le_refl _, by omega, rfl, rfl, HL3, HB3⟩
  case round =>
    clear HL3 HB3
    obtain ⟨d, hd1, hd, rfl, rfl, HL, HB⟩ := hrel
    have hd0 : (0 : Int) ≤ (d : Int) := by omega
    obtain ⟨s, x0, l, c, y, m, k, hR⟩ := HL.out
    have HX := Hid.mk' hR
    have hfl : fl d ≤ 1000000 := by have := HFL.out d (by omega); omega
    clear hR HL
    rcases Nat.lt_or_ge d (D + 1) with h1 | h1
    · have hdI : (d : Int) ≤ (D : Int) := by omega
      have HN := Hid.mk' (HFE.out d)
      have hll := HLL.out (D - d)
      have hlp := HLP.out (D - d)
      have hPP := HPP.out
      have hpd := HP2.out d (by omega)
      have hps : 2 ^ d = 2 ^ (d - 1) * 2 := by rw [← HPS.out (d - 1), show d - 1 + 1 = d by omega]
      have hpI : ((2 ^ (d - 1) : Nat) : Int) * 2 = ((2 ^ d : Nat) : Int) := by rw [hps]; simp
      have HLC := Hid.mk' (fun (W : World) (hb : Below w.heap.size w W) => HLV.out W d hb (by omega))
      have hq : d * ((lvs x (D - d) (n + 1)).length * 2 ^ (D - d)) ≤ 12 * 4096 := Nat.mul_le_mul (by omega) (by omega)
      have HRC := Hid.mk' (fun W => HRO.out W d (lvs x (D - d) (n + 1)).length (D - d) (by omega) (by omega))
      clear hps hlp
      obtain ⟨p2, hp2⟩ : ∃ p2, p2 = 2 ^ d := ⟨_, rfl⟩
      rw [← hp2] at hpI hpd HRC
      have HP2E := Hid.mk' hp2
      have hdl : (d : Int) * ((lvs x (D - d) (n + 1)).length : Int) ≤ 1000000 := by
        have h9 : d * (lvs x (D - d) (n + 1)).length ≤ 12 * 17 := Nat.mul_le_mul (by omega) (by omega)
        rw [show (d : Int) * ((lvs x (D - d) (n + 1)).length : Int) = ((d * (lvs x (D - d) (n + 1)).length : Nat) : Int) by simp]; omega
      have hdl0 : (0 : Int) ≤ (d : Int) * ((lvs x (D - d) (n + 1)).length : Int) := by
        rw [show (d : Int) * ((lvs x (D - d) (n + 1)).length : Int) = ((d * (lvs x (D - d) (n + 1)).length : Nat) : Int) by simp]; omega
      have ew : IntKind.i64.wrap ((d : Int) * ((lvs x (D - d) (n + 1)).length : Int)) = (d : Int) * ((lvs x (D - d) (n + 1)).length : Int) := by rw [IntKind.wrap_i64]; omega
      obtain ⟨Q, hQ⟩ : ∃ Q, Q = d * ((lvs x (D - d) (n + 1)).length * 2 ^ (D - d)) := ⟨_, rfl⟩
      rw [← hQ] at hq HRC HN
      clear hp2 hQ
      generalize hlv : lvs x (D - d) (n + 1) = lv at *
      clear hlv
      generalize hpq : 2 ^ (d - 1) = p1 at *
      clear hpq
      go_upto_region 8 with fail
      have hcur : Below wr.heap.size wr wr.drew := (Below.refl _ _).drew
      have HKS : Hid (∀ W, Below wr.heap.size wr W → (W.cell? ⟨B, 0, none⟩ = some (.bool s) ∧ W.cell? ⟨B, 1, none⟩ = some (.slice x0 l c) ∧ W.cell? ⟨B, 2, none⟩ = some (.slice y m k))) := fun W hb => ⟨(HX.out.later hb).c0, (HX.out.later hb).c1, (HX.out.later hb).c2⟩
      refine region_but_last (n := 10) (S := fun W => (W.cell? ⟨B, 0, none⟩ = some (.bool s) ∧ W.cell? ⟨B, 1, none⟩ = some (.slice x0 l c) ∧ W.cell? ⟨B, 2, none⟩ = some (.slice y m k))) (by kernel_rfl) (by kernel_rfl) (by kernel_rfl) (HKS.out _ hcur) (fun hHeld => ?_)
      refine wpAnyH_take (i := 0) (v := ?v0a) rfl (by kernel_rfl) (by kernel_rfl) (by kernel_rfl) (fun _ _ _ h => h) (Or.inl ⟨by rfl, ?hy0a⟩) (by assumption) ?rest0a
      case hy0a => (intro w hSw; (try dsimp only at hSw); go_simp <;> (try with_reducible rfl))
      simp only [Act.put]
      refine wpAnyH_take (i := 1) (v := ?v1a) rfl (by kernel_rfl) (by kernel_rfl) (by kernel_rfl) (fun _ _ _ h => h) (Or.inl ⟨by rfl, ?hy1a⟩) (by assumption) ?rest1a
      case hy1a => (intro w hSw; (try dsimp only at hSw); go_simp <;> (try with_reducible rfl))
      simp only [Act.put]
      refine wpAnyH_take (i := 2) (v := ?v2a) rfl (by kernel_rfl) (by kernel_rfl) (by kernel_rfl) (fun _ _ _ h => h) (Or.inl ⟨by rfl, ?hy2a⟩) (by assumption) ?rest2a
      case hy2a => (intro w hSw; (try dsimp only at hSw); go_simp <;> (try with_reducible rfl))
      simp only [Act.put]
      refine wpAnyH_take (i := 3) (v := ?v3a) rfl (by kernel_rfl) (by kernel_rfl) (by kernel_rfl) (fun _ _ _ h => h) (Or.inl ⟨by rfl, ?hy3a⟩) (by assumption) ?rest3a
      case hy3a => (intro w hSw; (try dsimp only at hSw); go_simp <;> (try with_reducible rfl))
      simp only [Act.put]
      refine wpAnyH_take (i := 7) (v := ?v7a) rfl (by kernel_rfl) (by kernel_rfl) (by kernel_rfl) (fun _ _ _ h => h) (Or.inl ⟨by rfl, ?hy7a⟩) (by assumption) ?rest7a
      case hy7a => (intro w hSw; (try dsimp only at hSw); go_simp <;> (try with_reducible rfl))
      simp only [Act.put]
      refine wpAnyH_ready (rs := [4]) (by kernel_rfl) (by simp) ?_
      refine AllReadyH.cons rfl (fun K hK => ?_) AllReadyH.nil
      go_simp
      refine (HLC.out _ (HEND.out _ (below_chain HB.out hcur))).mono ?_
      rintro e wa ⟨ua, rfl, hua, hba⟩
      obtain ⟨aa, ca, rfl⟩ := hua.form
      have hcur := below_chain hcur hba
      clear hua hba
      go_wp2_with fail
      refine hK.out _ _ ?_ (fun hHeld => ?_)
      · exact HKS.out _ hcur
      clear hK K
      refine wpAnyH_take (i := 5) (v := ?v5a) rfl (by kernel_rfl) (by kernel_rfl) (by kernel_rfl) (fun _ _ _ h => h) (Or.inl ⟨by rfl, ?hy5a⟩) (by assumption) ?rest5a
      case hy5a => (intro w hSw; (try dsimp only at hSw); go_simp <;> (try with_reducible rfl))
      simp only [Act.put]
      refine wpAnyH_take (i := 6) (v := ?v6a) rfl (by kernel_rfl) (by kernel_rfl) (by kernel_rfl) (fun _ _ _ h => h) (Or.inl ⟨by rfl, ?hy6a⟩) (by assumption) ?rest6a
      case hy6a => (intro w hSw; (try dsimp only at hSw); go_simp <;> (try with_reducible rfl))
      simp only [Act.put]
      refine wpAnyH_ready (rs := [8]) (by kernel_rfl) (by simp) ?_
      refine AllReadyH.cons rfl (fun K hK => ?_) AllReadyH.nil
      go_simp
      try rw [ew]
      refine (HRC.out _).mono ?_
      rintro e wb ⟨rb, rfl, hrb, hbb⟩
      obtain ⟨sb, xb, lb, cb, yb, mb, kb, rfl⟩ := hrb.sl
      have hcur := below_chain hcur hbb
      have HVb := Hid.mk' hrb
      clear hrb hbb
      go_wp2_with fail
      refine hK.out _ _ ?_ (fun hHeld => ?_)
      · exact HKS.out _ hcur
      clear hK K
      refine wpAnyH_ready (rs := [9]) (by kernel_rfl) (by simp) ?_
      refine AllReadyH.cons rfl (fun K hK => ?_) AllReadyH.nil
      go_simp
      refine (HPL.out _ _ _ (fl d) Q (HX.out.later hcur).rat HVb.out hfl (by omega)).mono ?_
      rintro e wc ⟨rc, rfl, hrc, hbc⟩
      obtain ⟨sc, xc, lc, cc, yc, mc, kc, rfl⟩ := hrc.sl
      have hcur := below_chain hcur hbc
      have hL9 := HX.out.later hcur
      have fz0 := hL9.fz 0 (by decide)
      have fz1 := hL9.fz 1 (by decide)
      have fz2 := hL9.fz 2 (by decide)
      have k0 := hL9.c0
      have k1 := hL9.c1
      have k2 := hL9.c2
      obtain ⟨⟨g0, g1⟩, ⟨g2, g3⟩, g4⟩ := put_three' (.bool sc) (.slice xc lc cc) (.slice yc mc kc) k0 k1 k2
      have HP := Hid.mk' (hL9.put hrc)
      have HB9 := Hid.mk' (set3_belowS (below_chain HB.out hcur) HZ3.out (.bool sc) (.slice xc lc cc) (.slice yc mc kc))
      clear hL9 hrc hbc
      go_wp2_with fail
      refine hK.out _ _ ?_ (fun hHeld => ?_)
      · exact HKS.out _ hcur
      clear hK K
      refine wpAnyH_done (by kernel_rfl) ?_ _
      refine ahead_last rfl (fun K hK => ?_)
      go_simp
      refine hK _ _ ?_
      clear hK K
      unfold put3 at HP
      clear HKS HVb hHeld hcur k0 k1 k2 fz0 fz1 fz2 g0 g1 g2 g3 g4 HX
      generalize ((wc.setCell ⟨B, 0, none⟩ (.bool sc)).setCell ⟨B, 1, none⟩ (.slice xc lc cc)).setCell ⟨B, 2, none⟩ (.slice yc mc kc) = wz at *
      go_wp2_with fail
      exact ⟨⟨d + 1, by omega, h1, by rw [Nat.add_sub_cancel, ← HP2E.out], by go_num, ⟨_, _, _, _, _, _, _, by rw [HN.out]; exact HP.out⟩, HB9⟩, by simp [intOf] <;> omega⟩
    · obtain rfl : d = D + 1 := by omega
      have hdI : ¬ ((D : Int) + 1 ≤ (D : Int)) := by omega
      clear HLV HLL HLP HRO HPL
      go_upto_region 9 with fail
      have hcur : Below wr.heap.size wr wr.drew := (Below.refl _ _).drew
      have HKS : Hid (∀ W, Below wr.heap.size wr W → (W.cell? ⟨B, 0, none⟩ = some (.bool s) ∧ W.cell? ⟨B, 1, none⟩ = some (.slice x0 l c) ∧ W.cell? ⟨B, 2, none⟩ = some (.slice y m k))) := fun W hb => ⟨(HX.out.later hb).c0, (HX.out.later hb).c1, (HX.out.later hb).c2⟩
      refine region_but_last (n := 6) (S := fun W => (W.cell? ⟨B, 0, none⟩ = some (.bool s) ∧ W.cell? ⟨B, 1, none⟩ = some (.slice x0 l c) ∧ W.cell? ⟨B, 2, none⟩ = some (.slice y m k))) (by kernel_rfl) (by kernel_rfl) (by kernel_rfl) (HKS.out _ hcur) (fun hHeld => ?_)
      refine wpAnyH_take (i := 0) (v := ?v0b) rfl (by kernel_rfl) (by kernel_rfl) (by kernel_rfl) (fun _ _ _ h => h) (Or.inl ⟨by rfl, ?hy0b⟩) (by assumption) ?rest0b
      case hy0b => (intro w hSw; (try dsimp only at hSw); go_simp <;> (try with_reducible rfl))
      simp only [Act.put]
      refine wpAnyH_take (i := 1) (v := ?v1b) rfl (by kernel_rfl) (by kernel_rfl) (by kernel_rfl) (fun _ _ _ h => h) (Or.inl ⟨by rfl, ?hy1b⟩) (by assumption) ?rest1b
      case hy1b => (intro w hSw; (try dsimp only at hSw); go_simp <;> (try with_reducible rfl))
      simp only [Act.put]
      refine wpAnyH_take (i := 2) (v := ?v2b) rfl (by kernel_rfl) (by kernel_rfl) (by kernel_rfl) (fun _ _ _ h => h) (Or.inl ⟨by rfl, ?hy2b⟩) (by assumption) ?rest2b
      case hy2b => (intro w hSw; (try dsimp only at hSw); go_simp <;> (try with_reducible rfl))
      simp only [Act.put]
      refine wpAnyH_ready (rs := [3]) (by kernel_rfl) (by simp) ?_
      refine AllReadyH.cons rfl (fun K hK => ?_) AllReadyH.nil
      go_simp
      refine (HSM.out _ (HEND.out _ (below_chain HB.out hcur))).mono ?_
      rintro e wa ⟨rfl, hwa⟩
      rw [hwa]
      clear hwa
      go_wp2_with fail
      refine hK.out _ _ ?_ (fun hHeld => ?_)
      · exact HKS.out _ hcur
      clear hK K
      refine wpAnyH_ready (rs := [4]) (by kernel_rfl) (by simp) ?_
      refine AllReadyH.cons rfl (fun K hK => ?_) AllReadyH.nil
      go_simp
      refine (HRS.out _).mono ?_
      rintro e wb ⟨rb, rfl, hrb, hbb⟩
      obtain ⟨sb, xb, lb, cb, yb, mb, kb, rfl⟩ := hrb.sl
      have hcur := below_chain hcur hbb
      have HVb := Hid.mk' hrb
      clear hrb hbb
      go_wp2_with fail
      refine hK.out _ _ ?_ (fun hHeld => ?_)
      · exact HKS.out _ hcur
      clear hK K
      refine wpAnyH_ready (rs := [5]) (by kernel_rfl) (by simp) ?_
      refine AllReadyH.cons rfl (fun K hK => ?_) AllReadyH.nil
      go_simp
      refine (HTM.out _ _ _ (fl (D + 1)) (HX.out.later hcur).rat HVb.out hfl).mono ?_
      rintro e wc ⟨rc, rfl, hrc, hbc⟩
      obtain ⟨sc, xc, lc, cc, yc, mc, kc, rfl⟩ := hrc.sl
      have hcur := below_chain hcur hbc
      have hL9 := HRB.out wc (below_chain HB.out hcur)
      have fz0 := hL9.fz 0 (by decide)
      have fz1 := hL9.fz 1 (by decide)
      have fz2 := hL9.fz 2 (by decide)
      have k0 := hL9.c0
      have k1 := hL9.c1
      have k2 := hL9.c2
      obtain ⟨⟨g0, g1⟩, ⟨g2, g3⟩, g4⟩ := put_three' (.bool sc) (.slice xc lc cc) (.slice yc mc kc) k0 k1 k2
      have HP := Hid.mk' (hL9.put hrc)
      have HB9 := Hid.mk' (set3_belowS (HEND.out _ (below_chain HB.out hcur)) (Nat.le_refl _) (.bool sc) (.slice xc lc cc) (.slice yc mc kc))
      clear hL9 hrc hbc
      go_wp2_with fail
      refine hK.out _ _ ?_ (fun hHeld => ?_)
      · exact HKS.out _ hcur
      clear hK K
      refine wpAnyH_done (by kernel_rfl) ?_ _
      refine ahead_last rfl (fun K hK => ?_)
      go_simp
      refine hK _ _ ?_
      clear hK K
      unfold put3 at HP
      clear HKS HVb hHeld hcur k0 k1 k2 fz0 fz1 fz2 g0 g1 g2 g3 g4 HX
      generalize ((wc.setCell ⟨w.heap.size, 0, none⟩ (.bool sc)).setCell ⟨w.heap.size, 1, none⟩ (.slice xc lc cc)).setCell ⟨w.heap.size, 2, none⟩ (.slice yc mc kc) = wz at *
      go_wp2_with fail
      exact bodyPost_ret (v := .agg #[.bool sc, .slice xc lc cc, .slice yc mc kc]) (by simp [results, Tryd.results17, go_sem, HP.out.c0, HP.out.c1, HP.out.c2]) rfl ⟨_, rfl, HP.out.rat, HB9.out⟩
end Go.Proofs.YtobmngkaoahmiaaDoor

/- The document's Told of a fraction. -/
namespace Go.Proofs.YtobmngkaoahmiaaDoor
open Go.RowKit

theorem cmpOf_le {a b : Nat} (h : a ≤ b) : cmpOf a b ≤ 0 := by
  unfold cmpOf
  split
  · omega
  · split
    · omega
    · omega

set_option maxRecDepth 100000 in
set_option maxHeartbeats 2000000 in
theorem RTold_ok (v : Value) (m d : Nat) (w : World) (h : RatioAt w v (m : Int) d) (hm : m ≤ 4611686018427387904) (hd : d ≤ 4611686018427387904) :
    Calls Tryd.prog 16 #[v] w fun e w' => e = .returned (.tuple #[.agg #[.int .i64 m, .int .i64 d], .bool true]) ∧ Below w.heap.size w w' := by
  obtain ⟨u, q, rfl, hu, hq⟩ := h
  rw [Int.natAbs_natCast] at hu
  rw [decide_eq_false (show ¬ (m : Int) < 0 by omega)]
  obtain ⟨ad1, l1, cap1, rfl, _⟩ := hu.len
  obtain ⟨ad2, l2, cap2, rfl, _⟩ := hq.len
  obtain ⟨W0, hW0⟩ : ∃ W0, W0 = (w.alloc (.cells #[.bool false, .slice ad1 l1 cap1, .slice ad2 l2 cap2] 43)).alloc (.cells #[.int .i64 0, .int .i64 0] 36) := ⟨_, rfl⟩
  have hb0 : Below w.heap.size w W0 := by rw [hW0]; exact below_chain (new_below _ _) (new_below _ _)
  have HKS : Hid (∀ W, Below W0.heap.size W0 W → (W.cell? ⟨w.heap.size, 0, none⟩ = some (.bool false) ∧ W.cell? ⟨w.heap.size, 1, none⟩ = some (.slice ad1 l1 cap1) ∧ W.cell? ⟨w.heap.size, 2, none⟩ = some (.slice ad2 l2 cap2)) ∧ (W.cell? ⟨w.heap.size + 1, 0, none⟩ = some (.int .i64 0) ∧ W.cell? ⟨w.heap.size + 1, 1, none⟩ = some (.int .i64 0)) ∧ W.frozen? ⟨w.heap.size + 1, 0, none⟩ = false ∧ W.frozen? ⟨w.heap.size + 1, 1, none⟩ = false) := fun W hb => by
    have hr := hb
    rw [hW0] at hr
    have hr2 := res_past hr
    rw [World.size_alloc] at hr2
    have a : ∀ j v, #[Value.bool false, .slice ad1 l1 cap1, .slice ad2 l2 cap2][j]? = some v → W0.cell? ⟨w.heap.size, j, none⟩ = some v := fun j v h => by rw [hW0, World.cell?_alloc_lt _ _ ⟨w.heap.size, j, none⟩ (by simp), World.cell?_alloc_at _ _ _ _ rfl]; exact h
    exact ⟨⟨(cell_past (a 0 _ rfl) hb).2, (cell_past (a 1 _ rfl) hb).2, (cell_past (a 2 _ rfl) hb).2⟩, ⟨hr2.1, hr2.2.1⟩, hr2.2.2⟩
  have HU : Hid (∀ W, Below W0.heap.size W0 W → BigAt W (.slice ad1 l1 cap1) m ∧ BigAt W (.slice ad2 l2 cap2) d) := fun W hb => ⟨(hu.later hb0).later hb, (hq.later hb0).later hb⟩
  have hof : Calls Tryd.prog 41 #[.int .i64 4611686018427387904] W0 fun e w' => ∃ v, e = .returned v ∧ BigAt w' v 4611686018427387904 ∧ Below W0.heap.size W0 w' := BigOf_any 4611686018427387904 W0 (Nat.le_refl _)
  have k4 : (4611686018427387904 : Nat) < 1000000 ^ 4 := by decide
  obtain ⟨z1, hz1⟩ : ∃ z, z = cmpOf m 4611686018427387904 := ⟨_, rfl⟩
  obtain ⟨z2, hz2⟩ : ∃ z, z = cmpOf d 4611686018427387904 := ⟨_, rfl⟩
  have hle1 : ¬ 0 < z1 := by rw [hz1]; have := cmpOf_le hm; omega
  have hle2 : ¬ 0 < z2 := by rw [hz2]; have := cmpOf_le hd; omega
  have HC1 : Hid (∀ (W : World) (v : Value), Below W0.heap.size W0 W → BigAt W v 4611686018427387904 → Calls Tryd.prog 42 #[.slice ad1 l1 cap1, v] W fun e w' => e = .returned (.int .i64 z1) ∧ ∃ m, w' = W.drewN m) := fun W v hb hv => by
    rw [hz1]; exact BigCmp_any _ _ m _ 4 W (HU.out W hb).1 hv (Nat.lt_of_le_of_lt hm k4) k4 (by decide)
  have HC2 : Hid (∀ (W : World) (v : Value), Below W0.heap.size W0 W → BigAt W v 4611686018427387904 → Calls Tryd.prog 42 #[.slice ad2 l2 cap2, v] W fun e w' => e = .returned (.int .i64 z2) ∧ ∃ m, w' = W.drewN m) := fun W v hb hv => by
    rw [hz2]; exact BigCmp_any _ _ d _ 4 W (HU.out W hb).2 hv (Nat.lt_of_le_of_lt hd k4) k4 (by decide)
  have HI1 : Hid (∀ W, Below W0.heap.size W0 W → Calls Tryd.prog 43 #[.slice ad1 l1 cap1] W fun e w' => e = .returned (.tuple #[.int .i64 m, .bool true]) ∧ w' = W) := fun W hb => BigInt_any _ m W (HU.out W hb).1 hm
  have HI2 : Hid (∀ W, Below W0.heap.size W0 W → Calls Tryd.prog 43 #[.slice ad2 l2 cap2] W fun e w' => e = .returned (.tuple #[.int .i64 d, .bool true]) ∧ w' = W) := fun W hb => BigInt_any _ d W (HU.out W hb).2 hd
  have HB0 := Hid.mk' hb0
  have HW0 := Hid.mk' hW0
  clear hu hq hb0 hW0 hz1 hz2 k4 hm hd
  go_enter Tryd.func16, Tryd.ntmps16
  go_upto_region 1 with fail
  rw [← HW0.out]
  go_wp2_with fail
  refine hof.mono ?_
  clear hof
  rintro e w1 ⟨v1, rfl, hv1, hb1⟩
  obtain ⟨⟨x0, x1, x2⟩, _, _, _⟩ := HKS.out w1 hb1
  have hc1 := HC1.out w1 v1 hb1 hv1
  go_wp2_with fail
  refine hc1.mono ?_
  rintro e w2 ⟨rfl, m2, hw2⟩
  have hb2 : Below w1.heap.size w1 w2 := by rw [hw2]; exact below_drewN (Below.refl _ _) _
  have hv2 := hv1.later hb2
  have hb02 := below_chain hb1 hb2
  clear hw2 hb1 hv1 hb2 hc1 x0 x1 x2
  obtain ⟨⟨x0, x1, x2⟩, _, _, _⟩ := HKS.out w2 hb02
  have hc2 := HC2.out w2 v1 hb02 hv2
  go_wp2_with fail
  refine hc2.mono ?_
  rintro e w3 ⟨rfl, m3, hw3⟩
  have hb3 : Below w2.heap.size w2 w3 := by rw [hw3]; exact below_drewN (Below.refl _ _) _
  have hb03 := below_chain hb02 hb3
  clear hw3 hb02 hv2 hb3 hc2 x0 x1 x2
  obtain ⟨⟨x0, x1, x2⟩, ⟨c0, c1⟩, f0, f1⟩ := HKS.out w3 hb03
  have hi1 := HI1.out w3 hb03
  have hi2 := HI2.out w3 hb03
  have HB3 := Hid.mk' (below_chain HB0.out hb03)
  clear hb03
  go_wp2_with (first
    | (go_at_call_of 43 cap1; refine hi1.mono ?_; rintro e w4 ⟨rfl, hw4⟩; rw [hw4]; clear hw4)
    | (go_at_call_of 43 cap2; refine hi2.mono ?_; rintro e w4 ⟨rfl, hw4⟩; rw [hw4]; clear hw4))
  refine bodyPost_ret (v := .tuple #[.agg #[.int .i64 m, .int .i64 d], .bool true]) (by simp [results, Tryd.results16, go_sem, c0, c1]) rfl ⟨rfl, ?_⟩
  exact (HB3.out.setCell (by show w.heap.size ≤ w.heap.size + 1; omega) _).setCell (by show w.heap.size ≤ w.heap.size + 1; omega) _
end Go.Proofs.YtobmngkaoahmiaaDoor

/- coded of an error by its number. -/
namespace Go.Proofs.YtobmngkaoahmiaaDoor
open Go.RowKit

theorem coded_errV (a : Nat → Addr) (c : Nat) (hc : c ≤ 8) (w : World) (h : Errs w a) :
    Calls Tryd.prog 15 #[errV a c, .int .i64 (c : Int)] w fun e w' => e = .returned (.bool true) ∧ Below w.heap.size w w' := by
  by_cases h0 : c = 0
  · subst h0
    rw [errV_zero]
    refine (coded_nil 0 w).mono ?_
    rintro e w' ⟨rfl, rfl⟩
    exact ⟨rfl, Below.refl _ _⟩
  · rw [errV_pos a h0]
    have h1 := coded_err a (c - 1) (by omega) (c : Int) w h
    have e : decide ((c : Int) = ((c - 1 : Nat) : Int) + 1) = true := decide_eq_true (by omega)
    rw [e] at h1
    exact h1
end Go.Proofs.YtobmngkaoahmiaaDoor

/- SampleFlips: the law. -/
namespace Go.Proofs.YtobmngkaoahmiaaDoor
open Go.RowKit

theorem low_natS (N D : Nat) : lowN D (N : Int) = ((N / Nat.gcd N D : Nat) : Int) ∧ lowD D (N : Int) = D / Nat.gcd N D := by
  unfold lowN lowD lowG
  rw [Int.natAbs_natCast]
  exact ⟨rfl, rfl⟩
/-- A fraction in a box. -/
structure FrS (w : World) (b : Nat) (p q : Int) : Prop where
  c0 : w.cell? ⟨b, 0, none⟩ = some (.int .i64 p)
  c1 : w.cell? ⟨b, 1, none⟩ = some (.int .i64 q)
  f0 : w.frozen? ⟨b, 0, none⟩ = false
  f1 : w.frozen? ⟨b, 1, none⟩ = false
theorem FrS.later {w w' : World} {b : Nat} {p q : Int} (h : FrS w b p q) (hb : Below w.heap.size w w') : FrS w' b p q :=
  ⟨by rw [hb.cell (cell_lt h.c0)]; exact h.c0, by rw [hb.cell (cell_lt h.c1)]; exact h.c1, by rw [hb.frozen (show b < w.heap.size from cell_lt h.c0)]; exact h.f0, by rw [hb.frozen (show b < w.heap.size from cell_lt h.c0)]; exact h.f1⟩
theorem FrS.fresh (w : World) (p q : Int) : FrS (w.alloc (.cells #[.int .i64 p, .int .i64 q] 36)) w.heap.size p q :=
  ⟨by simp, by simp, by simp, by simp⟩
theorem FrS.put {w : World} {b : Nat} {p q : Int} (h : FrS w b p q) (x y : Int) : FrS ((w.setCell ⟨b, 0, none⟩ (.int .i64 x)).setCell ⟨b, 1, none⟩ (.int .i64 y)) b x y := by
  have := put_twoS (.int .i64 x) (.int .i64 y) h.c0 h.c1
  exact ⟨this.2.1, this.2.2, by rw [World.frozen?_setCell, World.frozen?_setCell]; exact h.f0, by rw [World.frozen?_setCell, World.frozen?_setCell]; exact h.f1⟩
theorem new_belowS (w : World) (X : Obj) : Below w.heap.size w (w.alloc X) := (Below.refl _ _).alloc (Nat.le_refl _) _
set_option maxRecDepth 100000 in
set_option maxHeartbeats 4000000 in
theorem Sfl_few (a : Nat → Addr) (ad : Option Addr) (n cap : Nat) (w : World) (hE : Errs w a) (hm : n ≤ maxLen) (hq : 400 < n) :
    Calls Tryd.prog 4 #[.slice ad n cap] w fun e w' => e = .returned (.bool true) ∧ Below w.heap.size w w' := by
  have HTH := Hid.mk' (third_any a w hE)
  unfold maxLen at hm
  have hmI : (n : Int) ≤ 9223372036854775807 := by omega
  have hqI : (400 : Int) < (n : Int) := by omega
  have hqd : decide ((400 : Int) < (n : Int)) = true := decide_eq_true hqI
  clear hE
  go_enter Tryd.func4, Tryd.ntmps4
  go_wp2_with fail
  refine HTH.out.mono ?_
  rintro e w2 ⟨rfl, hb2⟩
  have HB2 := Hid.mk' hb2
  clear hb2 HTH
  go_wp2_with fail
  go_ret
  exact ⟨rfl, HB2.out⟩
set_option maxRecDepth 100000 in
set_option maxHeartbeats 4000000 in
theorem Sfl_ok (a : Nat → Addr) (ad : Option Addr) (n cap : Nat) (z : Nat → Int) (w : World) (hE : Errs w a) (h : NumsAt w (.slice ad n cap) n z) (h0 : weightsErr z n = 0) :
    Calls Tryd.prog 4 #[.slice ad n cap] w fun e w' => e = .returned (.bool true) ∧ Below w.heap.size w w' := by
  have HTH := Hid.mk' (third_any a w hE)
  obtain ⟨h16, hok⟩ := weightsErr_ok h0
  have hp := hok.pos
  have hl := hok.le
  obtain ⟨S, hS⟩ : ∃ S : Nat, sumN z n = (S : Int) := ⟨(sumN z n).toNat, by omega⟩
  have hqI : ¬ (400 : Int) < (n : Int) := by omega
  have hqd : decide ((400 : Int) < (n : Int)) = false := decide_eq_false hqI
  have HWE := Hid.mk' (fun (W : World) (hb : Below w.heap.size w W) => WeightsError_any (.slice ad n cap) n z W (h.later hb) (by omega))
  rw [h0] at HWE
  have HIN := Hid.mk' (fun (W : World) (hb : Below w.heap.size w W) => ints_any (.slice ad n cap) n z W (h.later hb) (by omega))
  obtain ⟨R, hR⟩ : ∃ R, R = flT (xT z n S) n (dpT S) (dpT S + 1) := ⟨_, rfl⟩
  have hfl := flT_le (x := xT z n S) (n := n) (D := dpT S) (by rw [xT_sum hok.nn hS]; exact dpT_pow (by omega) (by omega)) (dpT S + 1) (by have := dpT_le (S := S) (by omega) (by omega); omega)
  have hD12 := dpT_le (S := S) (by omega) (by omega)
  have HFL : Hid (∀ W v, Below w.heap.size w W → NumsAt W v n z → Calls Tryd.prog 18 #[v] W fun e w' => e = .returned (.tuple #[flipsV R S, .nilIface]) ∧ Below W.heap.size W w') := fun W v hb hv => by
    rw [hR]; exact Flips_ok a v n S z W (hE.below hb) hv hS h0
  have HFO : Hid (∀ W, Below w.heap.size w W → Calls Tryd.prog 17 #[.slice ad n cap] W fun e w' => ∃ r, e = .returned r ∧ LR w' r S (R : Int) ∧ Below W.heap.size W w') := fun W hbw => by
    obtain ⟨b, o, c, hv, hr⟩ := row_ofS (h.later hbw) hok.posN
    simp only [Value.slice.injEq, true_and] at hv
    obtain ⟨rfl, rfl⟩ := hv
    rw [hR]
    exact FlipsOf_any b o cap n S z W hr hok hS h16
  have HTO : Hid (∀ W v, LR W v S (R : Int) → Calls Tryd.prog 16 #[v] W fun e w' => e = .returned (.tuple #[flipsV R S, .bool true]) ∧ Below W.heap.size W w') := fun W v hv => by
    have h1 := low_natS R S
    unfold LR at hv
    rw [h1.1, h1.2] at hv
    exact RTold_ok v _ _ W hv (Nat.le_trans (Nat.div_le_self _ _) (by rw [hR]; omega)) (Nat.le_trans (Nat.div_le_self _ _) (by omega))
  have HCD := Hid.mk' (fun (W : World) (hb : Below w.heap.size w W) => coded_errV a 0 (by decide) W (hE.below hb))
  rw [errV_zero] at HCD
  unfold flipsV at HFL HTO
  clear hE h hok h0 hR hfl hD12 hp hl hS
  generalize ((R / Nat.gcd R S : Nat) : Int) = p at *
  generalize ((S / Nat.gcd R S : Nat) : Int) = q at *
  go_enter Tryd.func4, Tryd.ntmps4
  go_wp2_with fail
  refine HTH.out.mono ?_
  rintro e w2 ⟨rfl, hb2⟩
  have HB1 := Hid.mk' hb2
  clear hb2 HTH
  go_wp2_with fail
  refine (HWE.out w2 HB1.out).mono ?_
  rintro e w3 ⟨rfl, hw3⟩
  rw [hw3]
  clear hw3 HWE
  have HB2 := Hid.mk' (below_chain HB1.out (new_belowS w2 (.cells #[.int .i64 0, .int .i64 0] 36)))
  have HLT : Hid (w.heap.size ≤ w2.heap.size) := HB1.out.size
  have HF2 := Hid.mk' (FrS.fresh w2 0 0)
  go_upto_region 6 with fail
  generalize w2.alloc (.cells #[.int .i64 0, .int .i64 0] 36) = W2 at *
  generalize w2.heap.size = B2 at *
  go_wp2_with fail
  refine (HFO.out W2 HB2.out).mono ?_
  rintro e w3 ⟨v3, rfl, hv3, hb3⟩
  have HB3 := Hid.mk' (below_chain HB2.out hb3)
  have HF3 := Hid.mk' (HF2.out.later hb3)
  have HV3 := Hid.mk' hv3
  clear hb3 hv3
  go_wp2_with fail
  refine (HTO.out w3 v3 HV3.out).mono ?_
  rintro e w4 ⟨rfl, hb4⟩
  have HB4 := Hid.mk' (below_chain HB3.out hb4)
  have HF4 := Hid.mk' (HF3.out.later hb4)
  obtain ⟨g0, g1, f0, f1⟩ := HF4.out
  clear hb4
  have HB5 : Hid (Below w.heap.size w ((w4.setCell ⟨B2, 0, none⟩ (.int .i64 p)).setCell ⟨B2, 1, none⟩ (.int .i64 q))) := (HB4.out.setCell HLT.out _).setCell HLT.out _
  have HF5 := Hid.mk' (HF4.out.put p q)
  go_wp2_with fail
  generalize (w4.setCell ⟨B2, 0, none⟩ (.int .i64 p)).setCell ⟨B2, 1, none⟩ (.int .i64 q) = W5 at *
  clear g0 g1 f0 f1 HF4 HB4
  refine (HIN.out W5 HB5.out).mono ?_
  rintro e w5 ⟨v5, rfl, hv5, hb5⟩
  have HB55 := Hid.mk' (below_chain HB5.out hb5)
  have HF55 := Hid.mk' (HF5.out.later hb5)
  have HD5 := Hid.mk' (HFL.out w5 v5 HB55.out hv5)
  clear hv5 hb5
  go_wp2_with fail
  refine HD5.out.mono ?_
  rintro e w6 ⟨rfl, hb6⟩
  have HB6 := Hid.mk' (below_chain (below_chain HB55.out hb6) (new_belowS w6 (.cells #[.int .i64 p, .int .i64 q] 36)))
  have HF6 := Hid.mk' ((HF55.out.later hb6).later (new_belowS w6 (.cells #[.int .i64 p, .int .i64 q] 36)))
  have HG6 := Hid.mk' (FrS.fresh w6 p q)
  clear hb6
  go_wp2_with fail
  generalize w6.alloc (.cells #[.int .i64 p, .int .i64 q] 36) = W6 at *
  generalize w6.heap.size = B6 at *
  refine (HCD.out W6 HB6.out).mono ?_
  rintro e w7 ⟨rfl, hb7⟩
  have HB7 := Hid.mk' (below_chain HB6.out hb7)
  obtain ⟨x0, x1, _, _⟩ := HF6.out.later hb7
  obtain ⟨z0, z1, _, _⟩ := HG6.out.later hb7
  clear hb7
  go_wp2_with fail
  go_ret
  exact ⟨rfl, HB7.out⟩
set_option maxRecDepth 100000 in
set_option maxHeartbeats 4000000 in
theorem Sfl_bad (a : Nat → Addr) (ad : Option Addr) (n cap : Nat) (z : Nat → Int) (w : World) (hE : Errs w a) (h : NumsAt w (.slice ad n cap) n z) (hq : n ≤ 400) (h0 : weightsErr z n ≠ 0) :
    Calls Tryd.prog 4 #[.slice ad n cap] w fun e w' => e = .returned (.bool true) ∧ Below w.heap.size w w' := by
  have HTH := Hid.mk' (third_any a w hE)
  have hqI : ¬ (400 : Int) < (n : Int) := by omega
  have hqd : decide ((400 : Int) < (n : Int)) = false := decide_eq_false hqI
  have HWE := Hid.mk' (fun (W : World) (hb : Below w.heap.size w W) => WeightsError_any (.slice ad n cap) n z W (h.later hb) (by omega))
  have HIN := Hid.mk' (fun (W : World) (hb : Below w.heap.size w W) => ints_any (.slice ad n cap) n z W (h.later hb) (by omega))
  have HFL := Hid.mk' (fun (W : World) (v : Value) (hb : Below w.heap.size w W) (hv : NumsAt W v n z) => Flips_bad a v n z W (hE.below hb) hv (by omega) h0)
  have HCD := Hid.mk' (fun (W : World) (hb : Below w.heap.size w W) => coded_errV a (weightsErr z n) (by have := weightsErr_le z n; omega) W (hE.below hb))
  have hcb : (((weightsErr z n : Nat) : Int) == 0) = false := by rw [beq_eq_false_iff_ne]; omega
  obtain ⟨ev, hev⟩ : ∃ ev, ev = errV a (weightsErr z n) := ⟨_, rfl⟩
  rw [← hev] at HFL HCD
  generalize weightsErr z n = ce at *
  clear hE h h0 hev
  go_enter Tryd.func4, Tryd.ntmps4
  go_wp2_with fail
  refine HTH.out.mono ?_
  rintro e w2 ⟨rfl, hb2⟩
  have HB1 := Hid.mk' hb2
  clear hb2 HTH
  go_wp2_with fail
  refine (HWE.out w2 HB1.out).mono ?_
  rintro e w3 ⟨rfl, hw3⟩
  rw [hw3]
  clear hw3 HWE
  have HB2 := Hid.mk' (below_chain HB1.out (new_belowS w2 (.cells #[.int .i64 0, .int .i64 0] 36)))
  have HF2 := Hid.mk' (FrS.fresh w2 0 0)
  go_upto_region 6 with fail
  generalize w2.alloc (.cells #[.int .i64 0, .int .i64 0] 36) = W2 at *
  generalize w2.heap.size = B2 at *
  go_wp2_with fail
  refine (HIN.out W2 HB2.out).mono ?_
  rintro e w5 ⟨v5, rfl, hv5, hb5⟩
  have HB55 := Hid.mk' (below_chain HB2.out hb5)
  have HF55 := Hid.mk' (HF2.out.later hb5)
  have HD5 := Hid.mk' (HFL.out w5 v5 HB55.out hv5)
  clear hv5 hb5
  go_wp2_with fail
  refine HD5.out.mono ?_
  rintro e w6 ⟨rfl, hb6⟩
  have HB6 := Hid.mk' (below_chain (below_chain HB55.out hb6) (new_belowS w6 (.cells #[.int .i64 0, .int .i64 0] 36)))
  have HF6 := Hid.mk' ((HF55.out.later hb6).later (new_belowS w6 (.cells #[.int .i64 0, .int .i64 0] 36)))
  have HG6 := Hid.mk' (FrS.fresh w6 0 0)
  clear hb6
  go_wp2_with fail
  generalize w6.alloc (.cells #[.int .i64 0, .int .i64 0] 36) = W6 at *
  generalize w6.heap.size = B6 at *
  refine (HCD.out W6 HB6.out).mono ?_
  rintro e w7 ⟨rfl, hb7⟩
  have HB7 := Hid.mk' (below_chain HB6.out hb7)
  obtain ⟨x0, x1, _, _⟩ := HF6.out.later hb7
  obtain ⟨z0, z1, _, _⟩ := HG6.out.later hb7
  clear hb7
  go_wp2_with fail
  go_ret
  exact ⟨rfl, HB7.out⟩
theorem SampleFlips_all (a : Nat → Addr) (ad : Option Addr) (n cap : Nat) (z : Nat → Int) (w : World) (hE : Errs w a) (h : NumsAt w (.slice ad n cap) n z) (hm : n ≤ maxLen) :
    Calls Tryd.prog 4 #[.slice ad n cap] w fun e w' => e = .returned (.bool true) ∧ Below w.heap.size w w' := by
  by_cases hq : 400 < n
  · exact Sfl_few a ad n cap w hE hm hq
  · by_cases h0 : weightsErr z n = 0
    · exact Sfl_ok a ad n cap z w hE h h0
    · exact Sfl_bad a ad n cap z w hE h (by omega) h0
end Go.Proofs.YtobmngkaoahmiaaDoor

/- What the rows' condition on package variables gives a walk: eight different sentinels with their texts, and the handle of the type error; the tables of unicode/utf8 are listed besides. -/
namespace Go.Proofs.YtobmngkaoahmiaaDoor
open Go.ChangeShapes Go.WideShapes Go.RowKit

theorem Tryd.own : ownKnob Tryd.prog.godebug = none := by kernel_rfl
theorem Tryd.et : Tryd.prog.globalNamed "errors.errorType" = some 8 := by kernel_rfl
theorem Tryd.rt : (Tryd.prog.cutTypes.find? (·.1 == "internal/reflectlite.rtype")).map (·.2) = some 157 := by kernel_rfl
theorem Tryd.oneRow : ((List.range 212).filter fun t => Tryd.prog.rowNamed t [101, 114, 114, 111, 114]) = [29] := by kernel_rfl
theorem Tryd.size : Tryd.prog.types.size = 212 := by kernel_rfl
theorem Tryd.star : ("*" ++ "errors.errorString" : String) = "*errors.errorString" := by decide
theorem Tryd.rowE (u : TypeId) (h : Tryd.prog.typeName? 3 u = some "*errors.errorString") : u = 179 :=
  typeName_ptr_named (nm := "errors.errorString") (by rw [Tryd.star]; kernel_rfl) (by kernel_rfl) (by decide) u (by rw [Tryd.star]; exact h)
theorem Tryd.cellsE : Tryd.prog.cellsOf 200 = 1 := by kernel_rfl
theorem Tryd.cellsS : Tryd.prog.cellsOf 9 = 1 := by kernel_rfl
theorem Tryd.g0 : Tryd.prog.globalNamed "demon/api.ErrText" = some 4 := by kernel_rfl
theorem Tryd.g1 : Tryd.prog.globalNamed "demon/api.ErrBound" = some 1 := by kernel_rfl
theorem Tryd.g2 : Tryd.prog.globalNamed "demon/api.ErrShape" = some 2 := by kernel_rfl
theorem Tryd.g3 : Tryd.prog.globalNamed "demon/api.ErrZero" = some 5 := by kernel_rfl
theorem Tryd.g4 : Tryd.prog.globalNamed "demon/api.ErrName" = some 6 := by kernel_rfl
theorem Tryd.g5 : Tryd.prog.globalNamed "demon/api.ErrNone" = some 0 := by kernel_rfl
theorem Tryd.g6 : Tryd.prog.globalNamed "demon/api.ErrOrder" = some 3 := by kernel_rfl
theorem Tryd.g7 : Tryd.prog.globalNamed "demon/api.ErrKind" = some 7 := by kernel_rfl

/-- Any number of listed sentinels of one type: each one's pointer, text and row; no two are one. -/
theorem laid_list {P : Program} {W : World} {nm : String} {ti tp te ts : TypeId} {ms : Array (String × TypeId)} {f : Field}
    (hi : P.underlying ti = some (.interface ms)) (hrow : ∀ u, P.typeName? 3 u = some nm → u = tp)
    (hp : P.underlying tp = some (.pointer te)) (he : P.underlying te = some (.struct #[f])) (hft : f.type = ts) (hfo : f.offset = 0) (hs : P.underlying ts = some .string) (hc : P.cellsOf te = 1) (hcs : P.cellsOf ts = 1) :
    ∀ (L : List (String × List UInt8)) (ps : List MemPlace), (∀ x, x ∈ L → ∃ g, P.globalNamed x.1 = some g ∧ (P.globals[g]?).map (·.type) = some ti) →
      DataW.LaidVars P W (L.map fun x => (x.1, .iface nm (.ptr (.agg [.lit (.string x.2)])))) ps → ps.Nodup →
      (∀ b off, MemPlace.cell b off ∈ ps → (∃ c t, W.heap[b]? = some (.cells c t (0, 0))) ∧ ∀ u v, W.cell? ⟨b, off, none⟩ = some (.iface u v) → Value.okWide P W .any 0 u v) →
      ∃ a : Nat → Addr, (∀ i x, L[i]? = some x → W.var? P x.1 = some #[.iface tp (.pointer (some (a i)))] ∧ (∃ s, W.cell? (a i) = some (.string s) ∧ s.data.toList = x.2) ∧
          (∃ c t, W.heap[(a i).block]? = some (.cells c t (0, 0))) ∧ MemPlace.cell (a i).block (a i).off ∈ ps) ∧
        ∀ i j, i < L.length → j < L.length → i ≠ j → a i ≠ a j := by
  intro L
  induction L with
  | nil => intro ps _ _ _ _; exact ⟨fun _ => default, fun i x h => by simp at h, fun i j h => by simp at h⟩
  | cons x r ih =>
    intro ps hgs hv hnd hrows
    obtain ⟨n, text⟩ := x
    obtain ⟨g0, t0, cs0, f0, p0, q0, hg0, ht0, hv0, hd0, hvr, e0⟩ := hv
    obtain ⟨g, hg, ht⟩ := hgs (n, text) (List.mem_cons_self ..)
    obtain rfl := Option.some.inj (hg.symm.trans hg0)
    obtain rfl := Option.some.inj (ht.symm.trans ht0)
    subst e0
    obtain ⟨l0⟩ := cs0
    have ok0 : ∀ u v, l0 = [.iface u v] → Value.okWide P W .any 0 u v := fun u v e => by
      subst e
      exact (hrows g 0 (by simp [MemPlace.row])).2 u v (by simpa using World.var?_cell hg0 hv0 0)
    obtain ⟨a0, s0, rfl, hc0, hs0, hz0, rfl⟩ := errorString_of_trod hi hrow hp he hft hfo hs hc hcs hd0 ok0
    obtain ⟨c0, tt0, hb0⟩ := (hrows a0.block a0.off (by simp [MemPlace.row])).1
    have hnq : q0.Nodup := List.Nodup.sublist (List.sublist_append_right _ _) hnd
    obtain ⟨a', ha', hne'⟩ := ih q0 (fun x hx => hgs x (List.mem_cons_of_mem _ hx)) hvr hnq (fun b off hm => hrows b off (List.mem_append_right _ hm))
    have hnot : MemPlace.cell a0.block a0.off ∉ q0 := by
      intro hm
      have := (List.nodup_append.1 hnd).2.2
      exact this (.cell a0.block a0.off) (by simp [MemPlace.row]) (.cell a0.block a0.off) hm rfl
    refine ⟨fun i => match i with | 0 => a0 | k + 1 => a' k, ?_, ?_⟩
    · intro i x hx
      cases i with
      | zero =>
        simp only [List.getElem?_cons_zero, Option.some.injEq] at hx
        subst hx
        exact ⟨hv0, ⟨s0, hc0, hs0⟩, ⟨c0, tt0, hb0⟩, by simp [MemPlace.row]⟩
      | succ k =>
        simp only [List.getElem?_cons_succ] at hx
        obtain ⟨h1, h2, h3, h4⟩ := ha' k x hx
        exact ⟨h1, h2, h3, List.mem_append_right _ h4⟩
    · have far : ∀ k, k < r.length → a0 ≠ a' k := fun k hk e => by
        obtain ⟨_, _, _, h4⟩ := ha' k r[k] (by simp [hk])
        rw [← e] at h4
        exact hnot h4
      intro i j hi' hj' hij
      cases i with
      | zero =>
        cases j with
        | zero => exact absurd rfl hij
        | succ k => exact far k (by simpa using hj')
      | succ m =>
        cases j with
        | zero => exact (far m (by simpa using hi')).symm
        | succ k => exact hne' m k (by simpa using hi') (by simpa using hj') (by omega)

/-- The names and texts, in the rows' order. -/
def eightNames : List (String × List UInt8) := [("demon/api.ErrText", [100, 101, 109, 111, 110, 58, 32, 116, 101, 120, 116]), ("demon/api.ErrBound", [100, 101, 109, 111, 110, 58, 32, 98, 111, 117, 110, 100]), ("demon/api.ErrShape", [100, 101, 109, 111, 110, 58, 32, 115, 104, 97, 112, 101]), ("demon/api.ErrZero", [100, 101, 109, 111, 110, 58, 32, 122, 101, 114, 111]), ("demon/api.ErrName", [100, 101, 109, 111, 110, 58, 32, 110, 97, 109, 101]), ("demon/api.ErrNone", [100, 101, 109, 111, 110, 58, 32, 110, 111, 110, 101]), ("demon/api.ErrOrder", [100, 101, 109, 111, 110, 58, 32, 111, 114, 100, 101, 114]), ("demon/api.ErrKind", [100, 101, 109, 111, 110, 58, 32, 107, 105, 110, 100])]
def laidAll : List (String × DataW Unit) := [("unicode/utf8.acceptRanges", Rows.laid_unicode_utf8_acceptRanges), ("errors.errorType", Rows.laid_errors_errorType), ("demon/api.ErrText", Rows.laid_demon_api_ErrText), ("demon/api.ErrBound", Rows.laid_demon_api_ErrBound), ("demon/api.ErrShape", Rows.laid_demon_api_ErrShape), ("demon/api.ErrZero", Rows.laid_demon_api_ErrZero), ("demon/api.ErrName", Rows.laid_demon_api_ErrName), ("demon/api.ErrNone", Rows.laid_demon_api_ErrNone), ("demon/api.ErrOrder", Rows.laid_demon_api_ErrOrder), ("demon/api.ErrKind", Rows.laid_demon_api_ErrKind), ("unicode/utf8.first", Rows.laid_unicode_utf8_first)]
theorem laidAll_parts (W : World) : laidMetH Tryd.prog laidAll W = (laidMet Tryd.prog ([("unicode/utf8.acceptRanges", Rows.laid_unicode_utf8_acceptRanges)] ++ ((eightNames.map fun x => (x.1, .iface "*errors.errorString" (.ptr (.agg [.lit (.string x.2)])))) ++ [("unicode/utf8.first", Rows.laid_unicode_utf8_first)])) W ∧ handlesMet Tryd.prog [("errors.errorType", Rows.laid_errors_errorType)] W) := by kernel_rfl

theorem var_at {W : World} {n : String} {g : Nat} {v : Value} (hg : Tryd.prog.globalNamed n = some g) (h : W.var? Tryd.prog n = some #[v]) : W.cell? ⟨g, 0, none⟩ = some v := by
  simpa using World.var?_cell hg h 0

theorem laid_tail {P : Program} {W : World} {x : String × DataW Unit} {L : List (String × DataW Unit)} (h : laidMet P (x :: L) W) : laidMet P L W := by
  obtain ⟨n, d⟩ := x
  obtain ⟨ps, hv, hnd, hrows⟩ := h
  obtain ⟨g, t, cs, f, p, q, _, _, _, _, hvr, e⟩ := hv
  subst e
  exact ⟨q, hvr, List.Nodup.sublist (List.sublist_append_right _ _) hnd, fun b off hm => hrows b off (List.mem_append_right _ hm)⟩
theorem vars_front {P : Program} {W : World} : ∀ (L B : List (String × DataW Unit)) (ps : List MemPlace), DataW.LaidVars P W (L ++ B) ps → ∃ p1 p2, ps = p1 ++ p2 ∧ DataW.LaidVars P W L p1
  | [], B, ps, _ => ⟨[], ps, rfl, rfl⟩
  | (n, d) :: L, B, ps, h => by
    obtain ⟨g, t, cs, f, p, q, h1, h2, h3, h4, hvr, e⟩ := h
    obtain ⟨p1, p2, e2, h5⟩ := vars_front L B q hvr
    exact ⟨(MemPlace.row ⟨g, 0, none⟩ cs.size ++ p) ++ p1, p2, by rw [e, e2, ← List.append_assoc], g, t, cs, f, p, p1, h1, h2, h3, h4, h5, rfl⟩
theorem laid_front {P : Program} {W : World} {L B : List (String × DataW Unit)} (h : laidMet P (L ++ B) W) : laidMet P L W := by
  obtain ⟨ps, hv, hnd, hrows⟩ := h
  obtain ⟨p1, p2, e, h5⟩ := vars_front L B ps hv
  subst e
  exact ⟨p1, h5, List.Nodup.sublist (List.sublist_append_left _ _) hnd, fun b off hm => hrows b off (List.mem_append_left _ hm)⟩
theorem errs_of_laid {W : World} (h : laidMetH Tryd.prog laidAll W) : ∃ a : Nat → Addr, Errs W a ∧ ∀ i x, eightNames[i]? = some x → ∃ s, W.cell? (a i) = some (.string s) ∧ s.data.toList = x.2 := by
  rw [laidAll_parts] at h
  obtain ⟨hl0, hh⟩ := h
  obtain ⟨ps, hv, hnd, hrows⟩ := laid_front (L := eightNames.map fun x => (x.1, .iface "*errors.errorString" (.ptr (.agg [.lit (.string x.2)])))) (laid_tail hl0)
  obtain ⟨name, u, ty, e1, e2, e3, e4, e5⟩ := hh _ (List.mem_singleton.2 rfl)
  have en : name = [101, 114, 114, 111, 114] := (Option.some.inj e1).symm
  subst en
  obtain rfl := Option.some.inj (Tryd.rt.symm.trans e2)
  have hm : ty ∈ (List.range 212).filter fun t => Tryd.prog.rowNamed t [101, 114, 114, 111, 114] := List.mem_filter.2 ⟨List.mem_range.2 (by rw [← Tryd.size]; exact e3), e4⟩
  rw [Tryd.oneRow] at hm
  obtain rfl := List.mem_singleton.1 hm
  have hth : typeHandle Tryd.prog 29 = .pointer (some ⟨12, 29, none⟩) := by kernel_rfl
  rw [hth] at e5
  obtain ⟨a, ha, hne⟩ := laid_list Tryd.underlying29 Tryd.rowE Tryd.underlying179 Tryd.underlying200 rfl rfl Tryd.underlying9 Tryd.cellsE Tryd.cellsS eightNames ps
    (fun x hx => by
      simp only [eightNames, List.mem_cons, List.not_mem_nil, or_false] at hx
      rcases hx with rfl | rfl | rfl | rfl | rfl | rfl | rfl | rfl
      · exact ⟨_, Tryd.g0, by kernel_rfl⟩
      · exact ⟨_, Tryd.g1, by kernel_rfl⟩
      · exact ⟨_, Tryd.g2, by kernel_rfl⟩
      · exact ⟨_, Tryd.g3, by kernel_rfl⟩
      · exact ⟨_, Tryd.g4, by kernel_rfl⟩
      · exact ⟨_, Tryd.g5, by kernel_rfl⟩
      · exact ⟨_, Tryd.g6, by kernel_rfl⟩
      · exact ⟨_, Tryd.g7, by kernel_rfl⟩) hv hnd hrows
  refine ⟨a, ⟨var_at Tryd.g0 (ha 0 _ rfl).1, var_at Tryd.g1 (ha 1 _ rfl).1, var_at Tryd.g2 (ha 2 _ rfl).1, var_at Tryd.g3 (ha 3 _ rfl).1, var_at Tryd.g4 (ha 4 _ rfl).1, var_at Tryd.g5 (ha 5 _ rfl).1, var_at Tryd.g6 (ha 6 _ rfl).1, var_at Tryd.g7 (ha 7 _ rfl).1, var_at Tryd.et e5, ?_, ?_⟩, fun i x hx => (ha i x hx).2.1⟩
  · intro i hi
    have hl : eightNames.length = 8 := rfl
    exact (ha i eightNames[i] (List.getElem?_eq_getElem (by omega))).2.2.1
  · intro i j hi hj hij
    exact hne i j hi hj hij

/-- The door's own heap meets the condition. -/
theorem door_met (os : Os) (args : Array Value) : laidMetH Tryd.prog laidAll ((World.layVars Tryd.prog (World.doorLaid Tryd.prog 178 os) [("unicode/utf8.first", Rows.laid_unicode_utf8_first)]).forCall (fun _ _ => 0) ⟨#[], args, []⟩).memory :=
  laidMetH_of_parts3 (fuel := 8) (laidMet_of_run' 8 (by kernel_rfl) (by kernel_rfl)) (by kernel_rfl) (by kernel_rfl)
end Go.Proofs.YtobmngkaoahmiaaDoor

/- A parameter of type []int opened. -/
namespace Go.Proofs.YtobmngkaoahmiaaDoor
open Go.ChangeShapes Go.WideShapes Go.ChangeAt Go.RowKit Go.Joins Go.Deep

theorem Tryd.laidOut : laidOutB Tryd.prog = true := by kernel_rfl
theorem Tryd.cellsInt : Tryd.prog.cellsOf 3 = 1 := by kernel_rfl
theorem Tryd.cellsInts : Tryd.prog.cellsOf 22 = 1 := by kernel_rfl

set_option maxRecDepth 100000 in
/-- What a parameter of type []int gives: its slice, its numbers. -/
theorem open_nums {H : Type} {enc : TypeId × Value → H} {W : World} {base : Nat} {v : Value} {d : DataW H} {p : List MemPlace} (hv : Value.okWide Tryd.prog W .any base 22 v)
    (h : DataW.Trod enc Tryd.prog W 0 (fun _ => true) true 22 v d p) :
    ∃ (ad : Option Addr) (n cap : Nat) (z : Nat → Int), v = .slice ad n cap ∧ n ≤ maxLen ∧ NumsAt W (.slice ad n cap) n z := by
  obtain ⟨ad, n, cap, rfl⟩ := okWide_slice Tryd.underlying22 hv
  obtain ⟨fuel, hf⟩ := h
  rcases open_ints Tryd.underlying22 Tryd.underlying3 Tryd.cellsInt hf with ⟨hc, _⟩ | ⟨a, len, cap', zs, hc, _, hl, hm, hz, _, hcell, _⟩
  · simp [Value.cells] at hc
    obtain ⟨rfl, rfl, rfl⟩ := hc
    exact ⟨none, 0, 0, fun _ => 0, rfl, Nat.zero_le _, Or.inl ⟨none, 0, rfl, rfl⟩⟩
  · simp [Value.cells] at hc
    obtain ⟨rfl, rfl, rfl⟩ := hc
    simp only [if_true] at hz
    rcases Nat.eq_zero_or_pos n with rfl | hpos
    · exact ⟨some a, 0, cap, fun _ => 0, rfl, Nat.zero_le _, Or.inl ⟨some a, cap, rfl, rfl⟩⟩
    · obtain ⟨b, o, spot⟩ := a
      have hspot : spot = none := by simpa [Addr.add] using World.cell?_spot (hcell 0 (by omega))
      subst hspot
      refine ⟨_, n, cap, fun i => zs.getD i 0, rfl, by omega, Or.inr ⟨b, o, cap, rfl, hpos, fun i hi => ?_⟩⟩
      have := hcell i (by omega)
      rw [Go.Proofs.YtobmngkaoahmiaaDoor.add_plain] at this
      exact this
end Go.Proofs.YtobmngkaoahmiaaDoor
