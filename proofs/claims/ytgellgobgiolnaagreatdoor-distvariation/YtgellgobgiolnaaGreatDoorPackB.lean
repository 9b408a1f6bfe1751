/- The document's VariationOf. -/
import Derived.Test.YtgellgobgiolnaaGreatDoorPackA
import Derived.Test.YtgellgobgiolnaaGreatDoorPlus
import Derived.Test.YtgellgobgiolnaaGreatDoorWeights
import Derived.Test.YtgellgobgiolnaaGreatDoorBig
import Derived.Test.YtgellgobgiolnaaGreatDoorCode
import Derived.Test.YtgellgobgiolnaaGreatDoorRows
import Derived.ChangeSame
import Derived.ChangeVars
import Derived.JoinedOf
import Derived.LaidLaws
import Derived.LaidHandle
import Derived.LaidMore
import Derived.Stop.Joined
import Derived.Test.YtgellgobgiolnaaGreatDoorInts
import Derived.Test.YtgellgobgiolnaaGreatDoorCards
import Derived.Test.YtgellgobgiolnaaGreatDoorTie
import Derived.SevenTiedAt
import Derived.ProofKit
import Derived.OpenShut
import Derived.ChangeOld
import Derived.Lib.SmallJoins
import Derived.Deep.Matrix
namespace Go.Proofs.YtgellgobgiolnaaGreatDoor
open Go.RowKit

theorem RatioAt.set3 {W : World} {B : Nat} {n : Int} {d : Nat} {x y z t : Value} {r : Value} {u : Bool} {bd bd' : Option Addr} {m bap m' bap' : Nat} (hr : RatioAt W r n d) (c0 : W.cell? ⟨B, 0, none⟩ = some (.bool u)) (c1 : W.cell? ⟨B, 1, none⟩ = some (.slice bd m bap)) (c2 : W.cell? ⟨B, 2, none⟩ = some (.slice bd' m' bap')) (ht : t = r) : RatioAt (((W.setCell ⟨B, 0, none⟩ x).setCell ⟨B, 1, none⟩ y).setCell ⟨B, 2, none⟩ z) t n d := by
  subst ht
  exact ((hr.set1 c0 (by simp)).set1 (v := .slice bd m bap) (by rw [World.cell?_setCell_other _ _ _ _ (by simp)]; exact c1) (by simp)).set1 (v := .slice bd' m' bap') (by rw [World.cell?_setCell_other _ _ _ _ (by simp), World.cell?_setCell_other _ _ _ _ (by simp)]; exact c2) (by simp)
theorem low_big {M : Nat} (hM : 0 < M) {z : Int} (hM6 : M ≤ 100000000) (hz : -1000000000 ≤ z ∧ z ≤ 1000000000) : (lowN M z).natAbs < 1000000 ^ 3 ∧ lowD M z < 1000000 ^ 3 := by
  have p3 : (1000000 : Nat) ^ 3 = 1000000000000000000 := by decide
  have h1 := lowN_le hM z
  have h2 := lowD_le M z
  rw [p3]
  omega
theorem low_zero {M : Nat} (hM : 0 < M) : lowN 1 0 = lowN M 0 ∧ lowD 1 0 = lowD M 0 := by
  refine ⟨?_, ?_⟩
  · simp [lowN]
  · simp [lowD, lowG, Nat.div_self hM]
theorem low_more {M c : Nat} (hM : 0 < M) (hc : 0 < c) (z : Int) : lowN M z = lowN (M * c) (z * c) ∧ lowD M z = lowD (M * c) (z * c) := by
  have h := low_same (M := M * c) (d := M) (z := z * c) (n := z) (Nat.mul_pos hM hc) hM (by simp only [Int.natCast_mul]; grind)
  exact h
theorem Minus_two (M : Nat) (x y : Int) (r s : Value) (w : World) (hr : RatioAt w r (lowN M x) (lowD M x)) (hs : RatioAt w s (lowN M y) (lowD M y)) (hM : 0 < M) (hM6 : M ≤ 100000000) (hx : -1000000000 ≤ x ∧ x ≤ 1000000000) (hy : -1000000000 ≤ y ∧ y ≤ 1000000000) :
    Calls Tryz.prog 36 #[r, s] w fun e w' => ∃ r', e = .returned r' ∧ RatioAt w' r' (lowN M (x - y)) (lowD M (x - y)) ∧ Below w.heap.size w w' := by
  have l1 := low_big hM (z := x) hM6 hx
  have l2 := low_big hM (z := y) hM6 hy
  have h := Minus_ratio r s _ _ _ _ 3 w hr hs (lowD_pos hM _) (lowD_pos hM _) l1.1 l2.1 l1.2 l2.2 (by decide)
  have c1 := low_cross hM x
  have c2 := low_cross hM y
  have e := low_same (M := M) (d := lowD M x * lowD M y) (z := x - y) (n := lowN M x * (lowD M y : Int) + -lowN M y * (lowD M x : Int)) hM (Nat.mul_pos (lowD_pos hM _) (lowD_pos hM _)) (by
    simp only [Int.natCast_mul]
    grind)
  rw [e.1, e.2] at h
  exact h
theorem Plus_two (M : Nat) (x y : Int) (r s : Value) (w : World) (hr : RatioAt w r (lowN M x) (lowD M x)) (hs : RatioAt w s (lowN M y) (lowD M y)) (hM : 0 < M) (hM6 : M ≤ 100000000) (hx : -1000000000 ≤ x ∧ x ≤ 1000000000) (hy : -1000000000 ≤ y ∧ y ≤ 1000000000) :
    Calls Tryz.prog 45 #[r, s] w fun e w' => ∃ r', e = .returned r' ∧ RatioAt w' r' (lowN M (x + y)) (lowD M (x + y)) ∧ Below w.heap.size w w' := by
  have l1 := low_big hM (z := x) hM6 hx
  have l2 := low_big hM (z := y) hM6 hy
  have h := Plus_ratio r s _ _ _ _ 3 w hr hs (lowD_pos hM _) (lowD_pos hM _) l1.1 l2.1 l1.2 l2.2 (by decide)
  have e := low_plus hM x y
  rw [e.1, e.2] at h
  exact h
theorem Over_two (M : Nat) (x : Int) (r s : Value) (w : World) (hr : RatioAt w r (lowN M x) (lowD M x)) (hs : RatioAt w s (lowN 1 2) (lowD 1 2)) (hM : 0 < M) (hM6 : M ≤ 100000000) (hx : -1000000000 ≤ x ∧ x ≤ 1000000000) :
    Calls Tryz.prog 46 #[r, s] w fun e w' => ∃ r', e = .returned r' ∧ RatioAt w' r' (lowN (2 * M) x) (lowD (2 * M) x) ∧ Below w.heap.size w w' := by
  have l1 := low_big hM (z := x) hM6 hx
  rw [(low_one 2).1, (low_one 2).2] at hs
  have h := Over_ratio r s _ 2 _ 1 3 w hr hs (lowD_pos hM _) (by decide) l1.1 (by decide) l1.2 (by decide) (by decide)
  have c1 := low_cross hM x
  have e := low_same (M := 2 * M) (d := lowD M x * 2) (z := x) (n := lowN M x * ((1 : Nat) : Int)) (by omega) (Nat.mul_pos (lowD_pos hM _) (by decide)) (by
    simp only [Int.natCast_mul]
    grind)
  rw [e.1, e.2] at h
  exact h

set_option maxRecDepth 100000 in
set_option maxHeartbeats 4000000 in
theorem VariationOf_right (b o cap b' o' cap' n P Q : Nat) (p q : Nat → Int) (w : World) (h : RowAt w b o n p) (k : RowAt w b' o' n q) (hok1 : OkW p n) (hok2 : OkW q n) (hn : n ≤ 16) (hP : sumN p n = P) (hQ : sumN q n = Q) :
    Calls Tryz.prog 19 #[.slice (some ⟨b, o, none⟩) n cap, .slice (some ⟨b', o', none⟩) n cap'] w fun e w' => ∃ r, e = .returned r ∧ RatioAt w' r (lowN (2 * (P * Q)) (sumN (apV p q P Q) n)) (lowD (2 * (P * Q)) (sumN (apV p q P Q) n)) ∧ Below w.heap.size w w' := by
  have hP1 : 1 ≤ P ∧ P ≤ 4096 := by have := hok1.pos; have := hok1.le; omega
  have hQ1 : 1 ≤ Q ∧ Q ≤ 4096 := by have := hok2.pos; have := hok2.le; omega
  obtain ⟨M, hM⟩ : ∃ M, M = P * Q := ⟨_, rfl⟩
  have hM1 : 1 ≤ M ∧ M ≤ 16777216 := by
    rw [hM]
    have : P * Q ≤ 4096 * 4096 := Nat.mul_le_mul hP1.2 hQ1.2
    exact ⟨Nat.mul_pos hP1.1 hQ1.1, Nat.le_trans this (by decide)⟩
  have hM8 : M ≤ 100000000 := Nat.le_trans hM1.2 (by decide)
  rw [← hM]
  obtain ⟨W0, hW0⟩ : ∃ W0, W0 = w.alloc (.cells #[.bool false, .slice none 0 0, .slice none 0 0] 52) := ⟨_, rfl⟩
  have hb0 : Below w.heap.size w W0 := by rw [hW0]; exact new_below _ _
  have hz0 : W0.heap.size = w.heap.size + 1 := by rw [hW0]; simp
  have HNB : Hid (∀ W, Below W0.heap.size W0 W → NewBox3 w W w.heap.size) := fun W hb => by
    rw [hW0] at hb
    exact newBox3_of (Below.refl _ _) hb
  have HSP : Hid (∀ W, Below W0.heap.size W0 W → Calls Tryz.prog 20 #[.slice (some ⟨b, o, none⟩) n cap] W fun e w' => e = .returned (.int .i64 P) ∧ w' = W) := fun W hb => by
    have := Sum_some b o cap n p W ((h.later hb0).later hb) (fun k hk => by have := hok1.part hk; omega) (fun i hi => by have := hok1.lt hi; omega) (by omega)
    rw [hP] at this
    exact this
  have HSQ : Hid (∀ W, Below W0.heap.size W0 W → Calls Tryz.prog 20 #[.slice (some ⟨b', o', none⟩) n cap'] W fun e w' => e = .returned (.int .i64 Q) ∧ w' = W) := fun W hb => by
    have := Sum_some b' o' cap' n q W ((k.later hb0).later hb) (fun k hk => by have := hok2.part hk; omega) (fun i hi => by have := hok2.lt hi; omega) (by omega)
    rw [hQ] at this
    exact this
  have HR : Hid (RowAt W0 b o n p ∧ RowAt W0 b' o' n q) := ⟨h.later hb0, k.later hb0⟩
  have HPI : Hid (∀ i, i < n → 0 ≤ p i ∧ p i ≤ 4096) := fun i hi => hok1.lt hi
  have HQI : Hid (∀ i, i < n → 0 ≤ q i ∧ q i ≤ 4096) := fun i hi => hok2.lt hi
  have HSB : Hid (∀ k, k ≤ n → 0 ≤ sumN (apV p q P Q) k ∧ sumN (apV p q P Q) k ≤ 268435456) := fun k hk => by
    have h1 := sumN_nonneg (z := apV p q P Q) (n := k) (fun i hi => (apV_le (HPI.out i (by omega)) (HQI.out i (by omega)) hP1.2 hQ1.2).1)
    have h2 := sumN_bound (f := apV p q P Q) (B := 16777216) (n := k) (fun i hi => by have := apV_le (HPI.out i (by omega)) (HQI.out i (by omega)) hP1.2 hQ1.2; omega)
    have : (k : Int) * 16777216 ≤ 268435456 := by omega
    omega
  have hro := RatioOf_low 0 1 W0 (by omega) (by omega) (by omega)
  rw [(low_zero hM1.1).1, (low_zero hM1.1).2] at hro
  have HB0 := Hid.mk' hb0
  have HW0 := Hid.mk' hW0
  have HZ0 := Hid.mk' hz0
  have HM := Hid.mk' hM
  clear h k hb0 hW0 hz0 hok1 hok2 hP hQ hM
  go_enter Tryz.func19, Tryz.ntmps19
  go_upto_region 1 with fail
  rw [← HW0.out]
  go_wp2_with fail
  refine hro.mono ?_
  clear hro
  rintro e w1 ⟨r1, rfl, hr1, hb1⟩
  obtain ⟨s1, ad1, l1, ca1, ad2, l2, ca2, rfl⟩ := hr1.parts
  obtain ⟨W1, hW1⟩ : ∃ W1, W1 = w1.alloc (.cells #[.bool s1, .slice ad1 l1 ca1, .slice ad2 l2 ca2] 52) := ⟨_, rfl⟩
  have HF0 : Hid (FBox W0 W1 w1.heap.size (lowN M 0) (lowD M 0)) := by rw [hW1]; exact fBox_late hb1 hr1
  have HW1 := Hid.mk' hW1
  clear hr1 hb1 hW1
  go_upto_region 2 with fail
  rw [← HW1.out]
  clear HW1
  go_wp2_with fail
  go_loopw [6, 7] (fun i _ wr => ∃ k : Nat, k ≤ n ∧ i = .int .i64 k ∧ Hid (FBox W0 wr w1.heap.size (lowN M (sumN (apV p q P Q) k)) (lowD M (sumN (apV p q P Q) k)))) (fun i _ _ => n - (intOf i).toNat)
  case atStart => exact ⟨0, Nat.zero_le _, rfl, HF0⟩
  case round =>
    clear HF0
    obtain ⟨k, hk, rfl, HF⟩ := hrel
    rcases Nat.lt_or_ge k n with h1 | h1
    · have hkn : (k : Int) < (n : Int) := by omega
      have hk0 : (0 : Int) ≤ (k : Int) := by omega
      have HKS : Hid (∀ W, Below wr.heap.size wr W → W.cell? ⟨b, o + k, none⟩ = some (.int .i64 (p k)) ∧ W.cell? ⟨b', o' + k, none⟩ = some (.int .i64 (q k))) := fun W hb => ⟨HR.out.1.later (below_chain HF.out.below hb) k h1, HR.out.2.later (below_chain HF.out.below hb) k h1⟩
      have HV : Hid (sumN (apV p q P Q) (k + 1) = sumN (apV p q P Q) k + ((p k * Q - q k * P).natAbs : Int)) := rfl
      have hs1 := HSB.out k hk
      have hpk := HPI.out k h1
      have hqk := HQI.out k h1
      have hx := mul_le6 hpk hQ1.2
      have hy := mul_le6 hqk hP1.2
      generalize p k = x at *
      generalize q k = y at *
      have HRP : Hid (∀ W, Calls Tryz.prog 23 #[.int .i64 x, .int .i64 P] W fun e w' => ∃ r, e = .returned r ∧ RatioAt w' r (lowN M (x * Q)) (lowD M (x * Q)) ∧ Below W.heap.size W w') := fun W => by
        have := RatioOf_low x P W (by omega) hP1.1 (by omega)
        rw [(low_more hP1.1 hQ1.1 x).1, (low_more hP1.1 hQ1.1 x).2, ← HM.out] at this
        exact this
      have HRQ : Hid (∀ W, Calls Tryz.prog 23 #[.int .i64 y, .int .i64 Q] W fun e w' => ∃ r, e = .returned r ∧ RatioAt w' r (lowN M (y * P)) (lowD M (y * P)) ∧ Below W.heap.size W w') := fun W => by
        have := RatioOf_low y Q W (by omega) hQ1.1 (by omega)
        rw [(low_more hQ1.1 hP1.1 y).1, (low_more hQ1.1 hP1.1 y).2, Nat.mul_comm, ← HM.out] at this
        exact this
      generalize x * (Q : Int) = A at *
      generalize y * (P : Int) = B at *
      have HMI : Hid (∀ (W : World) (r s : Value), RatioAt W r (lowN M A) (lowD M A) → RatioAt W s (lowN M B) (lowD M B) → Calls Tryz.prog 36 #[r, s] W fun e w' => ∃ r', e = .returned r' ∧ RatioAt w' r' (lowN M (A - B)) (lowD M (A - B)) ∧ Below W.heap.size W w') := fun W r s hr hs => Minus_two M A B r s W hr hs hM1.1 hM8 (by omega) (by omega)
      have HSP' : Hid (∀ W, Below wr.heap.size wr W → Calls Tryz.prog 20 #[.slice (some ⟨b, o, none⟩) n cap] W fun e w' => e = .returned (.int .i64 P) ∧ w' = W) := fun W hb => HSP.out W (below_chain HF.out.below hb)
      have HSQ' : Hid (∀ W, Below wr.heap.size wr W → Calls Tryz.prog 20 #[.slice (some ⟨b', o', none⟩) n cap'] W fun e w' => e = .returned (.int .i64 Q) ∧ w' = W) := fun W hb => HSQ.out W (below_chain HF.out.below hb)
      have hcur0 : Below wr.heap.size wr wr := Below.refl _ _
      have hcur : Below wr.heap.size wr wr.drew := (Below.refl _ _).drew
      have hcurA : ∀ X, Below wr.heap.size wr (wr.alloc X).drew := fun X => (new_below _ _).drew
      have hab : -16777216 ≤ A - B ∧ A - B ≤ 16777216 := by omega
      clear hx hy hpk hqk
      go_upto_region 5 with fail
      go_cut [7] from 30 to 34 (fun s' wx => ∃ Bs : Nat, s' = .pointer (some ⟨Bs, 0, none⟩) ∧ Hid (FBox wr wx Bs (lowN M (A - B)) (lowD M (A - B))))
      case first =>
        go_region_held3 (fun W => W.cell? ⟨b, o + k, none⟩ = some (.int .i64 x) ∧ W.cell? ⟨b', o' + k, none⟩ = some (.int .i64 y))
          (first | exact HKS.out _ hcur0 | exact HKS.out _ hcur | exact HKS.out _ (hcurA _) | (refine HKS.out _ ?_; assumption) | (refine HKS.out _ (more_below ?_ _); assumption) | (refine HKS.out _ (below_set3 ?_ NB.hB _ _ _); assumption))
          (first
            | (go_at_call 36; refine (HMI.out _ _ _ ?_ ?_).mono ?_; (first | exact HXP.out | exact HXP.out.later (new_below _ _)); (first | exact HXQ.out | exact HXQ.out.later (new_below _ _)); rintro e w7 ⟨rv, rfl, hrv, hb7⟩; obtain ⟨sg, ad8, l8, cap8, ad9, l9, cap9, rfl⟩ := hrv.parts; (first | (have hbw7 := below_chain hbP hb7; try have NB := NB.later hb7) | (have hbw7 := below_chain hbQ hb7; try have NB := NB.later hb7) | (have hbw7 := below_chain (more_below hbP _) hb7; have NB := newBox3_of hbP hb7) | (have hbw7 := below_chain (more_below hbQ _) hb7; have NB := newBox3_of hbQ hb7)); (try (have y0 := NB.c0; have y1 := NB.c1; have y2 := NB.c2; have y3 := NB.f0; have y4 := NB.f1; have y5 := NB.f2)); have HRV := Hid.mk' hrv; clear hrv hb7)
            | (go_at_call_of 23 P; refine (HRP.out _).mono ?_; rintro e w5 ⟨r5, rfl, hr5, hb5⟩; obtain ⟨sg5, ad5, l5, cap5, ad6, l6, cap6, rfl⟩ := hr5.parts; (first | have hbP := below_chain hcur hb5 | (have hbP := below_chain (hcurA _) hb5; have NB := newBox3_of hcur0 (below_chain ((Below.refl _ _).drew) hb5)) | (have hbP := below_chain hbQ hb5; have HXQ := Hid.mk' (HXQ.out.later hb5); (try have NB := NB.later hb5)) | (have hbP := below_chain (more_below hbQ _) hb5; have HXQ := Hid.mk' ((HXQ.out.later (new_below _ _)).later hb5); have NB := newBox3_of hbQ hb5)); have HXP := Hid.mk' hr5; clear hr5 hb5)
            | (go_at_call_of 23 Q; refine (HRQ.out _).mono ?_; rintro e w6 ⟨r6, rfl, hr6, hb6⟩; obtain ⟨sg6, ad10, l10, cap10, ad11, l11, cap11, rfl⟩ := hr6.parts; (first | have hbQ := below_chain hcur hb6 | (have hbQ := below_chain (hcurA _) hb6; have NB := newBox3_of hcur0 (below_chain ((Below.refl _ _).drew) hb6)) | (have hbQ := below_chain hbP hb6; have HXP := Hid.mk' (HXP.out.later hb6); (try have NB := NB.later hb6)) | (have hbQ := below_chain (more_below hbP _) hb6; have HXP := Hid.mk' ((HXP.out.later (new_below _ _)).later hb6); have NB := newBox3_of hbP hb6)); have HXQ := Hid.mk' hr6; clear hr6 hb6)
            | (go_at_call_of 20 b; refine (HSP'.out _ ?_).mono ?_; (first | exact hcur | exact hcurA _ | exact hbQ | exact more_below hbQ _); rintro e wS ⟨rfl, hwS⟩; rw [hwS]; clear hwS)
            | (go_at_call_of 20 b'; refine (HSQ'.out _ ?_).mono ?_; (first | exact hcur | exact hcurA _ | exact hbP | exact more_below hbP _); rintro e wS ⟨rfl, hwS⟩; rw [hwS]; clear hwS))
        all_goals
          go_wp2_with fail
          go_meet
          first | exact ⟨_, rfl, fBox_late hbw7 HRV.out⟩ | exact ⟨_, rfl, fBox_soon hbw7 HRV.out NB⟩
      case rest =>
      obtain ⟨Bd, rfl, HFD⟩ := hcut
      obtain ⟨Wc, hWc⟩ : ∃ Wc, Wc = wc := ⟨_, rfl⟩
      rw [← hWc] at HFD ⊢
      clear hWc hcur0 hcur hcurA HMI HRP HRQ HKS HSP' HSQ'
      obtain ⟨sd, ad8, l8, cap8, ad9, l9, cap9, x0, x1, x2, hrd⟩ := HFD.out.box
      have f0 := HFD.out.f0
      have hBd := HFD.out.hB
      have HFC := Hid.mk' (HF.out.later HFD.out.below)
      have hw1 : w1.heap.size < wr.heap.size := by
        obtain ⟨_, _, _, _, _, _, _, c0, _⟩ := HF.out.box
        exact cell_lt c0
      have hne : Bd ≠ w1.heap.size := by omega
      have HBW := Hid.mk' (HF.out.below)
      clear hrd
      obtain ⟨W6, hW6⟩ : ∃ W6, W6 = Wc.setCell ⟨Bd, 0, none⟩ (.bool false) := ⟨_, rfl⟩
      have HD6 : Hid (FBox W0 W6 Bd (lowN M ((A - B).natAbs : Int)) (lowD M ((A - B).natAbs : Int))) := by
        have := (HFD.out.lower HF.out.below).plain
        rw [(low_abs M (A - B)).1, (low_abs M (A - B)).2, ← hW6] at this
        exact this
      have HS6 : Hid (FBox W0 W6 w1.heap.size (lowN M (sumN (apV p q P Q) k)) (lowD M (sumN (apV p q P Q) k))) := by
        rw [hW6]
        exact HFC.out.aside (by have := HF.out.below.size; omega) hne x0
      have HW6 := Hid.mk' hW6
      clear hW6
      go_upto_region 7 with fail
      rw [← HW6.out]
      clear HW6 x0 x1 x2 f0 HFD HFC HF
      obtain ⟨s5, ad5, l5, cap5, ad6, l6, cap6, c0, c1, c2, hr5⟩ := HS6.out.box
      obtain ⟨s7, ad7, l7, cap7, ad10, l10, cap10, d0, d1, d2, hr7⟩ := HD6.out.box
      have hpl := Plus_two M (sumN (apV p q P Q) k) ((A - B).natAbs : Int) _ _ W6 hr5 hr7 hM1.1 hM8 (by omega) (by omega)
      rw [← HV.out] at hpl
      have HB6 := Hid.mk' HS6.out.below
      have HFZ := Hid.mk' (And.intro HS6.out.f0 (And.intro HS6.out.f1 HS6.out.f2))
      have HBB := Hid.mk' HS6.out.hB
      clear hr5 hr7 HD6
      go_wp2_with fail
      refine hpl.mono ?_
      clear hpl
      rintro e w8 ⟨r8, rfl, hr8, hb8⟩
      obtain ⟨s8, ad11, l11, cap11, ad12, l12, cap12, rfl⟩ := hr8.parts
      have e0 := (cell_past c0 hb8).2
      have e1 := (cell_past c1 hb8).2
      have e2 := (cell_past c2 hb8).2
      have g0 := (frozen_past c0 HFZ.out.1 hb8).2
      have g1 := (frozen_past c1 HFZ.out.2.1 hb8).2
      have g2 := (frozen_past c2 HFZ.out.2.2 hb8).2
      have HN8 := Hid.mk' (fBox_put (below_chain HB6.out hb8) HBB.out g0 g1 g2 e0 e1 e2 hr8)
      clear hr8 hb8 c0 c1 c2 d0 d1 d2 HS6
      go_wp2_with fail
      exact ⟨⟨k + 1, by omega, by go_num, HN8⟩, by simp [intOf]; omega⟩
    · obtain rfl : k = n := by omega
      obtain ⟨s5, ad5, l5, cap5, ad6, l6, cap6, c0, c1, c2, hr5⟩ := HF.out.box
      have hs1 := HSB.out k (Nat.le_refl _)
      have hw1 : w1.heap.size < wr.heap.size := cell_lt c0
      have hne : w.heap.size ≠ w1.heap.size := by have := HF.out.hB; have := HZ0.out; omega
      have HKS : Hid (∀ W, Below wr.heap.size wr W → W.cell? ⟨w1.heap.size, 0, none⟩ = some (.bool s5) ∧ W.cell? ⟨w1.heap.size, 1, none⟩ = some (.slice ad5 l5 cap5) ∧ W.cell? ⟨w1.heap.size, 2, none⟩ = some (.slice ad6 l6 cap6)) := fun W hb => ⟨(cell_past c0 hb).2, (cell_past c1 hb).2, (cell_past c2 hb).2⟩
      have HSS : Hid (∀ (W : World) (x y z : Value), Below wr.heap.size wr W → (((W.setCell ⟨w.heap.size, 0, none⟩ x).setCell ⟨w.heap.size, 1, none⟩ y).setCell ⟨w.heap.size, 2, none⟩ z).cell? ⟨w1.heap.size, 0, none⟩ = some (.bool s5) ∧ (((W.setCell ⟨w.heap.size, 0, none⟩ x).setCell ⟨w.heap.size, 1, none⟩ y).setCell ⟨w.heap.size, 2, none⟩ z).cell? ⟨w1.heap.size, 1, none⟩ = some (.slice ad5 l5 cap5) ∧ (((W.setCell ⟨w.heap.size, 0, none⟩ x).setCell ⟨w.heap.size, 1, none⟩ y).setCell ⟨w.heap.size, 2, none⟩ z).cell? ⟨w1.heap.size, 2, none⟩ = some (.slice ad6 l6 cap6)) := fun W x y z hb => by
        obtain ⟨e0, e1, e2⟩ := HKS.out W hb
        refine ⟨?_, ?_, ?_⟩
        · rw [World.cell?_setCell_far _ _ _ _ hne, World.cell?_setCell_far _ _ _ _ hne, World.cell?_setCell_far _ _ _ _ hne]; exact e0
        · rw [World.cell?_setCell_far _ _ _ _ hne, World.cell?_setCell_far _ _ _ _ hne, World.cell?_setCell_far _ _ _ _ hne]; exact e1
        · rw [World.cell?_setCell_far _ _ _ _ hne, World.cell?_setCell_far _ _ _ _ hne, World.cell?_setCell_far _ _ _ _ hne]; exact e2
      have HOV : Hid (∀ (W : World) (s : Value), Below wr.heap.size wr W → RatioAt W s (lowN 1 2) (lowD 1 2) → Calls Tryz.prog 46 #[.agg #[.bool s5, .slice ad5 l5 cap5, .slice ad6 l6 cap6], s] W fun e w' => ∃ r', e = .returned r' ∧ RatioAt w' r' (lowN (2 * M) (sumN (apV p q P Q) k)) (lowD (2 * M) (sumN (apV p q P Q) k)) ∧ Below W.heap.size W w') := fun W s hb hs => Over_two M _ _ s W (hr5.later hb) hs hM1.1 hM8 (by omega)
      have HR2 : Hid (∀ W, Calls Tryz.prog 23 #[.int .i64 2, .int .i64 1] W fun e w' => ∃ r, e = .returned r ∧ RatioAt w' r (lowN 1 2) (lowD 1 2) ∧ Below W.heap.size W w') := fun W => RatioOf_low 2 1 W (by omega) (by omega) (by omega)
      have hcur0 : Below wr.heap.size wr wr := Below.refl _ _
      have hcur : Below wr.heap.size wr wr.drew := (Below.refl _ _).drew
      have HBW := Hid.mk' HF.out.below
      clear c0 c1 c2 hr5 HF
      go_wp2_with fail
      go_region_held3 (fun W => W.cell? ⟨w1.heap.size, 0, none⟩ = some (.bool s5) ∧ W.cell? ⟨w1.heap.size, 1, none⟩ = some (.slice ad5 l5 cap5) ∧ W.cell? ⟨w1.heap.size, 2, none⟩ = some (.slice ad6 l6 cap6))
        (first | exact HKS.out _ hcur0 | exact HKS.out _ hcur | exact HKS.out _ hc1 | exact HKS.out _ hc2 | exact HSS.out _ _ _ _ hc2)
        (first
          | (go_at_call 46; refine (HOV.out _ _ hc1 HX1.out).mono ?_; rintro e w7 ⟨rv, rfl, hrv, hb7⟩; obtain ⟨sg, ad8, l8, cap8, ad9, l9, cap9, rfl⟩ := hrv.parts; have hc2 := below_chain hc1 hb7; have hbw7 := below_chain HBW.out hc2; have NB := HNB.out w7 hbw7; have y0 := NB.c0; have y1 := NB.c1; have y2 := NB.c2; have y3 := NB.f0; have y4 := NB.f1; have y5 := NB.f2; have HRV := Hid.mk' hrv; have HB7 := Hid.mk' (below_chain HB0.out hbw7); clear hrv hb7 hbw7)
          | (go_at_call 23; refine (HR2.out _).mono ?_; rintro e w5 ⟨r5, rfl, hr5, hb5⟩; obtain ⟨sg5, ad10, l10, cap10, ad11, l11, cap11, rfl⟩ := hr5.parts; have hc1 := below_chain hcur hb5; have HX1 := Hid.mk' hr5; clear hr5 hb5))
      go_wp2_with fail
      exact bodyPost_ret (v := .agg #[.bool sg, .slice ad8 l8 cap8, .slice ad9 l9 cap9]) (by simp [results, Tryz.results19, go_sem, y0, y1, y2]) rfl ⟨_, rfl, HRV.out.set3 y0 y1 y2 rfl, below_set3 HB7.out (Nat.le_refl _) _ _ _⟩
end Go.Proofs.YtgellgobgiolnaaGreatDoor

/- The document's Told of a fraction. -/
namespace Go.Proofs.YtgellgobgiolnaaGreatDoor
open Go.RowKit

theorem cmpOf_le {a b : Nat} (h : a ≤ b) : cmpOf a b ≤ 0 := by
  unfold cmpOf
  split
  · omega
  · split
    · omega
    · omega

set_option maxRecDepth 100000 in
set_option maxHeartbeats 2000000 in
theorem RTold_ok (v : Value) (m d : Nat) (w : World) (h : RatioAt w v (m : Int) d) (hm : m ≤ 4611686018427387904) (hd : d ≤ 4611686018427387904) :
    Calls Tryz.prog 18 #[v] w fun e w' => e = .returned (.tuple #[.agg #[.int .i64 m, .int .i64 d], .bool true]) ∧ Below w.heap.size w w' := by
  obtain ⟨u, q, rfl, hu, hq⟩ := h
  rw [Int.natAbs_natCast] at hu
  rw [decide_eq_false (show ¬ (m : Int) < 0 by omega)]
  obtain ⟨ad1, l1, cap1, rfl, _⟩ := hu.len
  obtain ⟨ad2, l2, cap2, rfl, _⟩ := hq.len
  obtain ⟨W0, hW0⟩ : ∃ W0, W0 = (w.alloc (.cells #[.bool false, .slice ad1 l1 cap1, .slice ad2 l2 cap2] 52)).alloc (.cells #[.int .i64 0, .int .i64 0] 42) := ⟨_, rfl⟩
  have hb0 : Below w.heap.size w W0 := by rw [hW0]; exact below_chain (new_below _ _) (new_below _ _)
  have HKS : Hid (∀ W, Below W0.heap.size W0 W → (W.cell? ⟨w.heap.size, 0, none⟩ = some (.bool false) ∧ W.cell? ⟨w.heap.size, 1, none⟩ = some (.slice ad1 l1 cap1) ∧ W.cell? ⟨w.heap.size, 2, none⟩ = some (.slice ad2 l2 cap2)) ∧ (W.cell? ⟨w.heap.size + 1, 0, none⟩ = some (.int .i64 0) ∧ W.cell? ⟨w.heap.size + 1, 1, none⟩ = some (.int .i64 0)) ∧ W.frozen? ⟨w.heap.size + 1, 0, none⟩ = false ∧ W.frozen? ⟨w.heap.size + 1, 1, none⟩ = false) := fun W hb => by
    have hr := hb
    rw [hW0] at hr
    have hr2 := res_past hr
    rw [World.size_alloc] at hr2
    have a : ∀ j v, #[Value.bool false, .slice ad1 l1 cap1, .slice ad2 l2 cap2][j]? = some v → W0.cell? ⟨w.heap.size, j, none⟩ = some v := fun j v h => by rw [hW0, World.cell?_alloc_lt _ _ ⟨w.heap.size, j, none⟩ (by simp), World.cell?_alloc_at _ _ _ _ rfl]; exact h
    exact ⟨⟨(cell_past (a 0 _ rfl) hb).2, (cell_past (a 1 _ rfl) hb).2, (cell_past (a 2 _ rfl) hb).2⟩, ⟨hr2.1, hr2.2.1⟩, hr2.2.2⟩
  have HU : Hid (∀ W, Below W0.heap.size W0 W → BigAt W (.slice ad1 l1 cap1) m ∧ BigAt W (.slice ad2 l2 cap2) d) := fun W hb => ⟨(hu.later hb0).later hb, (hq.later hb0).later hb⟩
  have hof : Calls Tryz.prog 43 #[.int .i64 4611686018427387904] W0 fun e w' => ∃ v, e = .returned v ∧ BigAt w' v 4611686018427387904 ∧ Below W0.heap.size W0 w' := BigOf_any 4611686018427387904 W0 (Nat.le_refl _)
  have k4 : (4611686018427387904 : Nat) < 1000000 ^ 4 := by decide
  obtain ⟨z1, hz1⟩ : ∃ z, z = cmpOf m 4611686018427387904 := ⟨_, rfl⟩
  obtain ⟨z2, hz2⟩ : ∃ z, z = cmpOf d 4611686018427387904 := ⟨_, rfl⟩
  have hle1 : ¬ 0 < z1 := by rw [hz1]; have := cmpOf_le hm; omega
  have hle2 : ¬ 0 < z2 := by rw [hz2]; have := cmpOf_le hd; omega
  have HC1 : Hid (∀ (W : World) (v : Value), Below W0.heap.size W0 W → BigAt W v 4611686018427387904 → Calls Tryz.prog 44 #[.slice ad1 l1 cap1, v] W fun e w' => e = .returned (.int .i64 z1) ∧ ∃ m, w' = W.drewN m) := fun W v hb hv => by
    rw [hz1]; exact BigCmp_any _ _ m _ 4 W (HU.out W hb).1 hv (Nat.lt_of_le_of_lt hm k4) k4 (by decide)
  have HC2 : Hid (∀ (W : World) (v : Value), Below W0.heap.size W0 W → BigAt W v 4611686018427387904 → Calls Tryz.prog 44 #[.slice ad2 l2 cap2, v] W fun e w' => e = .returned (.int .i64 z2) ∧ ∃ m, w' = W.drewN m) := fun W v hb hv => by
    rw [hz2]; exact BigCmp_any _ _ d _ 4 W (HU.out W hb).2 hv (Nat.lt_of_le_of_lt hd k4) k4 (by decide)
  have HI1 : Hid (∀ W, Below W0.heap.size W0 W → Calls Tryz.prog 25 #[.slice ad1 l1 cap1] W fun e w' => e = .returned (.tuple #[.int .i64 m, .bool true]) ∧ w' = W) := fun W hb => BigInt_any _ m W (HU.out W hb).1 hm
  have HI2 : Hid (∀ W, Below W0.heap.size W0 W → Calls Tryz.prog 25 #[.slice ad2 l2 cap2] W fun e w' => e = .returned (.tuple #[.int .i64 d, .bool true]) ∧ w' = W) := fun W hb => BigInt_any _ d W (HU.out W hb).2 hd
  have HB0 := Hid.mk' hb0
  have HW0 := Hid.mk' hW0
  clear hu hq hb0 hW0 hz1 hz2 k4 hm hd
  go_enter Tryz.func18, Tryz.ntmps18
  go_upto_region 1 with fail
  rw [← HW0.out]
  go_wp2_with fail
  refine hof.mono ?_
  clear hof
  rintro e w1 ⟨v1, rfl, hv1, hb1⟩
  obtain ⟨⟨x0, x1, x2⟩, _, _, _⟩ := HKS.out w1 hb1
  have hc1 := HC1.out w1 v1 hb1 hv1
  go_wp2_with fail
  refine hc1.mono ?_
  rintro e w2 ⟨rfl, m2, hw2⟩
  have hb2 : Below w1.heap.size w1 w2 := by rw [hw2]; exact below_drewN (Below.refl _ _) _
  have hv2 := hv1.later hb2
  have hb02 := below_chain hb1 hb2
  clear hw2 hb1 hv1 hb2 hc1 x0 x1 x2
  obtain ⟨⟨x0, x1, x2⟩, _, _, _⟩ := HKS.out w2 hb02
  have hc2 := HC2.out w2 v1 hb02 hv2
  go_wp2_with fail
  refine hc2.mono ?_
  rintro e w3 ⟨rfl, m3, hw3⟩
  have hb3 : Below w2.heap.size w2 w3 := by rw [hw3]; exact below_drewN (Below.refl _ _) _
  have hb03 := below_chain hb02 hb3
  clear hw3 hb02 hv2 hb3 hc2 x0 x1 x2
  obtain ⟨⟨x0, x1, x2⟩, ⟨c0, c1⟩, f0, f1⟩ := HKS.out w3 hb03
  have hi1 := HI1.out w3 hb03
  have hi2 := HI2.out w3 hb03
  have HB3 := Hid.mk' (below_chain HB0.out hb03)
  clear hb03
  go_wp2_with (first
    | (go_at_call_of 25 cap1; refine hi1.mono ?_; rintro e w4 ⟨rfl, hw4⟩; rw [hw4]; clear hw4)
    | (go_at_call_of 25 cap2; refine hi2.mono ?_; rintro e w4 ⟨rfl, hw4⟩; rw [hw4]; clear hw4))
  refine bodyPost_ret (v := .tuple #[.agg #[.int .i64 m, .int .i64 d], .bool true]) (by simp [results, Tryz.results18, go_sem, c0, c1]) rfl ⟨rfl, ?_⟩
  exact (HB3.out.setCell (by show w.heap.size ≤ w.heap.size + 1; omega) _).setCell (by show w.heap.size ≤ w.heap.size + 1; omega) _
end Go.Proofs.YtgellgobgiolnaaGreatDoor

/- The law's closed fact: of a fair coin the entropy is 1. -/
namespace Go.Proofs.YtgellgobgiolnaaGreatDoor
open Go.RowKit Go.Maps

theorem pr_two' : Pr 2 := (isPr_iff 2).1 (by decide)
theorem coin_val (x : Int) : sumN (entV (fun _ => 3) 6 x) 2 = atL [((2 : Int), (6 : Int))] x := by
  have h := multI_step x (n := 6) (d := 2) (by decide) pr_two' (by decide)
  have e : 6 / 2 = 3 := by decide
  rw [e] at h
  show 0 + (3 * multI x 6 - 3 * multI x (3 : Int).toNat) + (3 * multI x 6 - 3 * multI x (3 : Int).toNat) = if (2 : Int) = x then 6 else 0
  have e3 : (3 : Int).toNat = 3 := rfl
  rw [e3, h]
  rw [show ((2 : Nat) : Int) = 2 from rfl]
  by_cases hx : x = 2
  · subst hx; simp; omega
  · rw [if_neg hx, if_neg (fun e => hx e.symm)]; omega
theorem coin_list {base : Nat} {w : World} {dn : Int} {v : Value} (h : LogBy base 6 (fun x => sumN (entV (fun _ => 3) 6 x) 2) w dn v) : dn = 1 ∧ OwnAt w v 1 (fun _ => 2) (fun _ => 1) := by
  obtain ⟨l, hr, hv, _, hd, hl⟩ := h.list
  have he : ∀ x, atL l x = atL [((2 : Int), (6 : Int))] x := fun x => by rw [hv, coin_val]
  have hr' : Rising [((2 : Int), (6 : Int))] := List.pairwise_singleton _ _
  rw [gList_same hr hr' he, over_same hr hr' he] at hl
  rw [gList_same hr hr' he] at hd
  have e1 : overL (gList 6 (List.map Prod.snd [((2 : Int), (6 : Int))])) [((2 : Int), (6 : Int))] = [(2, 1)] := by decide
  rw [e1] at hl
  refine ⟨by rw [hd]; decide, ?_⟩
  rcases hl with ⟨_, h0⟩ | ⟨g, cap, h1, h2⟩
  · cases h0
  · refine Or.inr ⟨g, cap, h1, fun k hk => ?_⟩
    obtain rfl : k = 0 := by omega
    exact h2 0 (by decide)

set_option maxRecDepth 100000 in
set_option maxHeartbeats 1000000 in
theorem coin_any (a : Nat → Addr) (w : World) (hE : Errs w a) : Calls Tryz.prog 7 #[] w fun e w' => e = .returned (.bool true) ∧ Below w.heap.size w w' := by
  have hb0 : Below w.heap.size w (w.alloc (.cells #[.int .i64 3, .int .i64 3] 3)) := new_below _ _
  have hent := Entropy_ok a w.heap.size 0 2 2 6 (fun _ => 3) (w.alloc (.cells #[.int .i64 3, .int .i64 3] 3)) (hE.below hb0) (fun i hi => by
    rcases (show i = 0 ∨ i = 1 by omega) with rfl | rfl
    · simp
    · simp) (by decide) (by decide) (fun i _ => by decide) (by decide) (by decide) (by decide) (by decide)
  have HB0 := Hid.mk' hb0
  clear hE hb0
  go_enter Tryz.func7, Tryz.ntmps7
  go_wp2_with fail
  refine hent.mono ?_
  clear hent
  rintro e w1 ⟨dn, v, rfl, hlb, hb1⟩
  obtain ⟨rfl, hown⟩ := coin_list hlb
  obtain ⟨ad, m, cap, rfl⟩ := own_form hown
  have hbW : Below w1.heap.size w1 ((w1.alloc (.cells #[.int .i64 1, .slice ad m cap] 27)).alloc (.cells #[.int .i64 2, .int .i64 1] 65)) := below_chain (new_below _ _) (new_below _ _)
  have hS := same_own 1 (.slice ad m cap) (.slice (some ⟨w1.heap.size + 1, 0, none⟩) 1 1) 1 (fun _ => 2) (fun _ => 1) ((w1.alloc (.cells #[.int .i64 1, .slice ad m cap] 27)).alloc (.cells #[.int .i64 2, .int .i64 1] 65)) (OwnAt.later hown hbW)
    (Or.inr ⟨w1.heap.size + 1, 1, rfl, fun k hk => by
      obtain rfl : k = 0 := by omega
      exact ⟨by simp, by simp⟩⟩) (by decide)
  have HB := Hid.mk' (below_chain (below_chain HB0.out hb1) hbW)
  clear hlb hown hb1 hbW HB0
  go_wp2_with fail
  refine hS.mono ?_
  clear hS
  rintro e w2 ⟨rfl, hb2⟩
  go_wp2_with fail
  go_ret
  exact ⟨rfl, below_chain HB.out hb2⟩
end Go.Proofs.YtgellgobgiolnaaGreatDoor

/- The law's copies of lists. -/
namespace Go.Proofs.YtgellgobgiolnaaGreatDoor
open Go.RowKit

theorem append_zeroI (w : World) (ty : TypeId) (ad : Option Addr) (cap : Nat) : (Builtin.append_ #[22, 22] ty #[.slice none 0 0, .slice ad 0 cap]).run Tryz.prog w = .ok (.slice none 0 0) w := by
  obtain ⟨i, hi, hi2⟩ := Option.map_eq_some_iff.1 Tryz.infoInt
  refine run_append_nothing w _ _ ty 3 i Tryz.underlying22 hi none 0 0 (Nat.le_refl _) _ ?_
  cases ad with
  | none => exact Src.ofNil w Tryz.underlying22 cap
  | some a => exact Src.ofSlice w Tryz.underlying22 a 0 cap [] (by simp) (fun j u h => by simp at h) (fun u h => by simp at h)
theorem wpList_append_zeroI {w : World} {ops : Array Oper} {rest : List Oper} {o : Oper} {a : Act} {Q : Exit → Act → World → Prop} (hgd : o.guard = none) (s x : Operand)
    (ho : o.op = .call { callee := .builtin .append, args := #[s, x], argTypes := #[22, 22] })
    (ad : Option Addr) (cap : Nat) (hs : a.eval s = .slice none 0 0) (hx : a.eval x = .slice ad 0 cap)
    (h : wpList Tryz.prog ops Q rest (a.put o.dst (.slice none 0 0)) w) : wpList Tryz.prog ops Q (o :: rest) a w := by
  refine wpList_plain hgd fun K hK => ?_
  have hrun := append_zeroI w o.type ad cap
  unfold Oper.wp
  simp [execOp, ho, resolve, invoke, builtin, hs, hx, hrun, Result.andThen]
  exact hK _ _ h

theorem numsAt_own {w : World} {base : Nat} {v : Value} {n : Nat} {z : Nat → Int} (h : w.ownsRow base 3 1 v n (numCells z n)) : NumsAt w v n z := by
  rcases h.2 with ⟨hv, h0⟩ | ⟨g, cap, cur, hv, _⟩
  · exact Or.inl ⟨none, 0, hv, h0⟩
  · rcases Nat.eq_zero_or_pos n with h0 | h0
    · exact Or.inl ⟨_, _, by rw [hv, h0], h0⟩
    · subst hv
      exact Or.inr ⟨g, 0, cap, rfl, h0, rowAt_of_row h⟩
set_option maxRecDepth 100000 in
set_option maxHeartbeats 1000000 in
theorem ints_row (v : Value) (n : Nat) (z : Nat → Int) (w : World) (h : NumsAt w v n z) (hn : n ≤ 400) :
    Calls Tryz.prog 11 #[v] w fun e w' => ∃ v', e = .returned v' ∧ w'.ownsRow w.heap.size 3 1 v' n (numCells z n) ∧ Below w.heap.size w w' := by
  rcases h with ⟨ad, cap, rfl, rfl⟩ | ⟨b, o, cap, rfl, h0, hr⟩
  · go_enter Tryz.func11, Tryz.ntmps11
    go_wp2_with (at_builtin; go_must (refine wpList_append_zeroI rfl _ _ rfl ad cap rfl rfl ?_))
    go_ret
    exact ⟨_, rfl, ⟨rfl, Or.inl ⟨rfl, rfl⟩⟩, Below.refl _ _⟩
  · obtain ⟨i, hi, hi2⟩ := Option.map_eq_some_iff.1 Tryz.infoInt
    obtain ⟨hz, hsz, hby⟩ : i.zero = some (.int .i64 0) ∧ i.size = 1 ∧ i.bytes = 8 := by simpa using hi2
    have HR := Hid.mk' hr
    have HI : Hid (Tryz.prog.info? 3 = some i) := hi
    have HZ : Hid (i.zero = some (.int .i64 0)) := hz
    have HS : Hid (i.size = 1) := hsz
    have HY : Hid (i.bytes = 8) := hby
    have HC : Hid (∀ u, u ∈ numCells z n → u.oneCell' = true) := fun u hu => by obtain ⟨x, rfl⟩ := numCells_ints z n u hu; rfl
    have HL : Hid ((numCells z n).length = n * 1) := by show _ = _; rw [numCells_length, Nat.mul_one]
    clear hr hi2 hi hz hsz hby
    go_enter Tryz.func11, Tryz.ntmps11
    go_wp2_with (at_builtin; go_must (refine wpList_append_lies _ rfl _ _ _ rfl w.heap.size 3 i _ 1 8 Tryz.underlying22 HI.out HZ.out HS.out HY.out rfl (by omega) (.slice none 0 0) 0 [] rfl ⟨rfl, Or.inl ⟨rfl, rfl⟩⟩ ⟨b, o, none⟩ n cap (numCells z n) rfl HL.out (fun j u hu => numCells_news HR.out j u hu) HC.out h0 (by unfold maxLen; omega) (by omega) (by simp) _ rfl ?_; intro g cap' w1 hown hgrow hat hlt; have HOWN := Hid.mk' hown; have HG := Hid.mk' hgrow; clear hown hgrow hat))
    go_ret
    exact ⟨_, rfl, by simpa using HOWN.out, (Below.refl _ _).grown HG.out (Nat.le_refl _) (fun k hk => by cases hk)⟩
theorem ints_any (v : Value) (n : Nat) (z : Nat → Int) (w : World) (h : NumsAt w v n z) (hn : n ≤ 400) :
    Calls Tryz.prog 11 #[v] w fun e w' => ∃ v', e = .returned v' ∧ NumsAt w' v' n z ∧ Below w.heap.size w w' := by
  refine (ints_row v n z w h hn).mono ?_
  rintro e w' ⟨v', rfl, h1, h2⟩
  exact ⟨v', rfl, numsAt_own h1, h2⟩
end Go.Proofs.YtgellgobgiolnaaGreatDoor

/- coded of an error by its number. -/
namespace Go.Proofs.YtgellgobgiolnaaGreatDoor
open Go.RowKit

theorem coded_errV (a : Nat → Addr) (c : Nat) (hc : c ≤ 8) (w : World) (h : Errs w a) :
    Calls Tryz.prog 17 #[errV a c, .int .i64 (c : Int)] w fun e w' => e = .returned (.bool true) ∧ Below w.heap.size w w' := by
  by_cases h0 : c = 0
  · subst h0
    rw [errV_zero]
    refine (coded_nil 0 w).mono ?_
    rintro e w' ⟨rfl, rfl⟩
    exact ⟨rfl, Below.refl _ _⟩
  · rw [errV_pos a h0]
    have h1 := coded_err a (c - 1) (by omega) (c : Int) w h
    have e : decide ((c : Int) = ((c - 1 : Nat) : Int) + 1) = true := decide_eq_true (by omega)
    rw [e] at h1
    exact h1
end Go.Proofs.YtgellgobgiolnaaGreatDoor

/- The law DistVariation. -/
namespace Go.Proofs.YtgellgobgiolnaaGreatDoor
open Go.RowKit

theorem twoErr_le3 (p q : Nat → Int) (n m : Nat) : twoErr p n q m ≤ 3 := by
  have h1 := weightsErr_le p n
  have h2 := weightsErr_le q m
  unfold twoErr
  repeat (split; omega)
  omega
set_option maxRecDepth 100000 in
set_option maxHeartbeats 2000000 in
theorem DistVariation_long (a : Nat → Addr) (ad ad' : Option Addr) (n cap m cap' : Nat) (w : World) (hE : Errs w a) (hn : ¬ (n ≤ 400 ∧ m ≤ 400)) (hm : n ≤ maxLen) (hm' : m ≤ maxLen) :
    Calls Tryz.prog 5 #[.slice ad n cap, .slice ad' m cap'] w fun e w' => e = .returned (.bool true) ∧ Below w.heap.size w w' := by
  have hC := coin_any a w hE
  unfold maxLen at hm hm'
  clear hE
  by_cases h1 : n ≤ 400
  · have h2 : ¬ m ≤ 400 := fun h => hn ⟨h1, h⟩
    clear hn
    have hd : decide (400 < (n : Int)) = false := decide_eq_false (by omega)
    have hd' : (400 : Int) < (m : Int) := by omega
    go_enter Tryz.func5, Tryz.ntmps5
    go_wp2_with (go_at_call 7; refine hC.mono ?_; rintro e w1 ⟨rfl, hb1⟩; have HB1 := Hid.mk' hb1; clear hb1)
    go_ret
    exact ⟨rfl, HB1.out⟩
  · clear hn
    have hd' : (400 : Int) < (n : Int) := by omega
    go_enter Tryz.func5, Tryz.ntmps5
    go_wp2_with (go_at_call 7; refine hC.mono ?_; rintro e w1 ⟨rfl, hb1⟩; have HB1 := Hid.mk' hb1; clear hb1)
    go_ret
    exact ⟨rfl, HB1.out⟩

set_option maxRecDepth 100000 in
set_option maxHeartbeats 4000000 in
theorem DistVariation_bad (a : Nat → Addr) (ad ad' : Option Addr) (n cap m cap' : Nat) (p q : Nat → Int) (w : World) (hE : Errs w a) (h : NumsAt w (.slice ad n cap) n p) (k : NumsAt w (.slice ad' m cap') m q) (hn : n ≤ 400) (hm : m ≤ 400) (h0 : twoErr p n q m ≠ 0) :
    Calls Tryz.prog 5 #[.slice ad n cap, .slice ad' m cap'] w fun e w' => e = .returned (.bool true) ∧ Below w.heap.size w w' := by
  have hC := coin_any a w hE
  have HN : Hid (∀ W, Below w.heap.size w W → NumsAt W (.slice ad n cap) n p) := fun W hb => h.later hb
  have HK : Hid (∀ W, Below w.heap.size w W → NumsAt W (.slice ad' m cap') m q) := fun W hb => k.later hb
  have HWE : Hid (∀ W, Below w.heap.size w W → Calls Tryz.prog 13 #[.slice ad n cap, .slice ad' m cap'] W fun e w' => e = .returned (.int .i64 (twoErr p n q m : Int)) ∧ w' = W) := fun W hb => TwoError_any _ _ n m p q W (h.later hb) (k.later hb) (by omega) (by omega)
  have HEN : Hid (∀ (W : World) (v u : Value), Below w.heap.size w W → NumsAt W v n p → NumsAt W u m q → Calls Tryz.prog 16 #[v, u] W fun e w' => e = .returned (.tuple #[.agg #[.int .i64 0, .int .i64 0], errV a (twoErr p n q m)]) ∧ Below W.heap.size W w') := fun W v u hb hv hu => Variation_bad a v u n m p q W (hE.below hb) hv hu hn hm h0
  have HCD : Hid (∀ W, Below w.heap.size w W → Calls Tryz.prog 17 #[errV a (twoErr p n q m), .int .i64 (twoErr p n q m : Int)] W fun e w' => e = .returned (.bool true) ∧ Below W.heap.size W w') := fun W hb => coded_errV a _ (by have := twoErr_le3 p q n m; omega) W (hE.below hb)
  have hd : decide (400 < (n : Int)) = false := decide_eq_false (by omega)
  have hd' : decide (400 < (m : Int)) = false := decide_eq_false (by omega)
  obtain ⟨ev, hev⟩ : ∃ ev, ev = errV a (twoErr p n q m) := ⟨_, rfl⟩
  rw [← hev] at HEN HCD
  generalize twoErr p n q m = c at *
  clear hE h k hev
  have hcb : (0 : Int) < (c : Int) := by omega
  go_enter Tryz.func5, Tryz.ntmps5
  go_wp2_with fail
  refine hC.mono ?_
  clear hC
  rintro e w1 ⟨rfl, hb1⟩
  have HB1 := Hid.mk' hb1
  clear hb1
  go_wp2_with (first
    | (go_at_call 13; refine (HWE.out w1 HB1.out).mono ?_; rintro e w2 ⟨rfl, hw2⟩; rw [hw2]; clear hw2)
    | (go_at_call_of 11 cap; refine (ints_any _ n p _ (HN.out _ HB1.out) hn).mono ?_; rintro e w3 ⟨v3, rfl, hv3, hb3⟩; obtain ⟨ad3, cap3, rfl⟩ := hv3.form; have HV3 := Hid.mk' hv3; have HB3 := Hid.mk' hb3; clear hv3 hb3)
    | (go_at_call_of 11 cap'; refine (ints_any _ m q w3 (HK.out _ (below_chain HB1.out HB3.out)) hm).mono ?_; rintro e w4 ⟨v4, rfl, hv4, hb4⟩; obtain ⟨ad4, cap4, rfl⟩ := hv4.form; have HV4 := Hid.mk' hv4; have HB4 := Hid.mk' hb4; clear hv4 hb4)
    | (go_at_call 16; refine (HEN.out w4 _ _ (below_chain (below_chain HB1.out HB3.out) HB4.out) (HV3.out.later HB4.out) HV4.out).mono ?_; rintro e w5 ⟨rfl, hb5⟩; have HBY := Hid.mk' (more_below (below_chain (below_chain (below_chain HB1.out HB3.out) HB4.out) hb5) (.cells #[.int .i64 0, .int .i64 0] 42)); clear hb5)
    | (go_at_call 17; refine (HCD.out _ HBY.out).mono ?_; rintro e w6 ⟨rfl, hb6⟩; have hh := res_past hb6; have y0 := hh.1; have y1 := hh.2.1; have HB6 := Hid.mk' (below_chain HBY.out hb6); clear hb6 hh))
  go_ret
  exact ⟨rfl, HB6.out⟩

set_option maxRecDepth 100000 in
set_option maxHeartbeats 4000000 in
theorem DistVariation_ok (a : Nat → Addr) (b o n cap b' o' cap' P Q : Nat) (p q : Nat → Int) (w : World) (hE : Errs w a) (h : RowAt w b o n p) (k : RowAt w b' o' n q) (h0 : twoErr p n q n = 0) (hP : sumN p n = P) (hQ : sumN q n = Q) :
    Calls Tryz.prog 5 #[.slice (some ⟨b, o, none⟩) n cap, .slice (some ⟨b', o', none⟩) n cap'] w fun e w' => e = .returned (.bool true) ∧ Below w.heap.size w w' := by
  have hC := coin_any a w hE
  obtain ⟨_, hn, hok1, hok2⟩ := twoErr_ok h0
  have h0n := hok1.posN
  have hP1 : 1 ≤ P ∧ P ≤ 4096 := by have := hok1.pos; have := hok1.le; omega
  have hQ1 : 1 ≤ Q ∧ Q ≤ 4096 := by have := hok2.pos; have := hok2.le; omega
  have HN : Hid (∀ W, Below w.heap.size w W → NumsAt W (.slice (some ⟨b, o, none⟩) n cap) n p) := fun W hb => Or.inr ⟨b, o, cap, rfl, h0n, h.later hb⟩
  have HK : Hid (∀ W, Below w.heap.size w W → NumsAt W (.slice (some ⟨b', o', none⟩) n cap') n q) := fun W hb => Or.inr ⟨b', o', cap', rfl, h0n, k.later hb⟩
  have HWE : Hid (∀ W, Below w.heap.size w W → Calls Tryz.prog 13 #[.slice (some ⟨b, o, none⟩) n cap, .slice (some ⟨b', o', none⟩) n cap'] W fun e w' => e = .returned (.int .i64 0) ∧ w' = W) := fun W hb => by
    have := TwoError_any _ _ n n p q W (HN.out W hb) (HK.out W hb) (by omega) (by omega)
    rw [h0] at this
    exact this
  have hM1 : 1 ≤ P * Q ∧ P * Q ≤ 16777216 := ⟨Nat.mul_pos hP1.1 hQ1.1, Nat.le_trans (Nat.mul_le_mul hP1.2 hQ1.2) (by decide)⟩
  obtain ⟨S, hS⟩ : ∃ S, S = sumN (apV p q P Q) n := ⟨_, rfl⟩
  have hS0 : 0 ≤ S ∧ S ≤ 268435456 := by
    have h1 := sumN_nonneg (z := apV p q P Q) (n := n) (fun i hi => (apV_le (hok1.lt hi) (hok2.lt hi) hP1.2 hQ1.2).1)
    have h2 := sumN_bound (f := apV p q P Q) (B := 16777216) (n := n) (fun i hi => by have := apV_le (hok1.lt hi) (hok2.lt hi) hP1.2 hQ1.2; omega)
    have : (n : Int) * 16777216 ≤ 268435456 := by omega
    omega
  obtain ⟨D, hD⟩ : ∃ D, D = 2 * (P * Q) := ⟨_, rfl⟩
  have hD1 : 1 ≤ D ∧ D ≤ 33554432 := by omega
  obtain ⟨y, hy⟩ : ∃ y : Nat, (y : Int) = lowN D S := by
    have h1 : 0 ≤ lowN D S := by unfold lowN; exact Int.tdiv_nonneg hS0.1 (by omega)
    exact ⟨(lowN D S).toNat, by omega⟩
  obtain ⟨d, hd0⟩ : ∃ d : Nat, d = lowD D S := ⟨_, rfl⟩
  have hyd : y ≤ 4611686018427387904 ∧ d ≤ 4611686018427387904 := by
    have h1 := lowN_le hD1.1 S
    have h2 := lowD_le D S
    rw [← hy] at h1
    rw [← hd0] at h2
    have h3 : y ≤ 268435456 := by omega
    have h4 : d ≤ 33554432 := by omega
    exact ⟨Nat.le_trans h3 (by decide), Nat.le_trans h4 (by decide)⟩
  have HEN : Hid (∀ (W : World) (v u : Value), Below w.heap.size w W → NumsAt W v n p → NumsAt W u n q → Calls Tryz.prog 16 #[v, u] W fun e w' => e = .returned (.tuple #[.agg #[.int .i64 y, .int .i64 d], .nilIface]) ∧ Below W.heap.size W w') := fun W v u hb hv hu => by
    rcases hv with ⟨_, _, _, h4⟩ | ⟨b1, o1, c1, rfl, _, hr1⟩
    · omega
    rcases hu with ⟨_, _, _, h4⟩ | ⟨b2, o2, c2, rfl, _, hr2⟩
    · omega
    have := Variation_right a b1 o1 c1 b2 o2 c2 n P Q _ p q W (hE.below hb) hr1 hr2 h0 hP hQ rfl
    rw [← hS, Nat.mul_assoc, ← hD] at this
    rw [hy, hd0]
    exact this
  have HVO : Hid (∀ W, Below w.heap.size w W → Calls Tryz.prog 19 #[.slice (some ⟨b, o, none⟩) n cap, .slice (some ⟨b', o', none⟩) n cap'] W fun e w' => ∃ r, e = .returned r ∧ RatioAt w' r (y : Int) d ∧ Below W.heap.size W w') := fun W hb => by
    have := VariationOf_right b o cap b' o' cap' n P Q p q W (h.later hb) (k.later hb) hok1 hok2 hn hP hQ
    rw [← hS, ← hD] at this
    rw [hy, hd0]
    exact this
  have HTO : Hid (∀ (W : World) (r : Value), RatioAt W r (y : Int) d → Calls Tryz.prog 18 #[r] W fun e w' => e = .returned (.tuple #[.agg #[.int .i64 y, .int .i64 d], .bool true]) ∧ Below W.heap.size W w') := fun W r hr => RTold_ok r y d W hr hyd.1 hyd.2
  have hd : decide (400 < (n : Int)) = false := decide_eq_false (by omega)
  clear hE h k h0 hok1 hok2 hP hQ hS hS0 hD hD1 hM1 hy hd0 hyd
  go_enter Tryz.func5, Tryz.ntmps5
  go_wp2_with fail
  refine hC.mono ?_
  clear hC
  rintro e w1 ⟨rfl, hb1⟩
  have HB1 := Hid.mk' hb1
  clear hb1
  go_wp2_with (first
    | (go_at_call 13; refine (HWE.out w1 HB1.out).mono ?_; rintro e w2 ⟨rfl, hw2⟩; rw [hw2]; clear hw2)
    | (go_at_call_of 11 cap; refine (ints_any _ n p _ (HN.out _ HB1.out) (by omega)).mono ?_; rintro e w3 ⟨v3, rfl, hv3, hb3⟩; obtain ⟨ad3, cap3, rfl⟩ := hv3.form; have HV3 := Hid.mk' hv3; have HB3 := Hid.mk' hb3; clear hv3 hb3)
    | (go_at_call_of 11 cap'; refine (ints_any _ n q w3 (HK.out _ (below_chain HB1.out HB3.out)) (by omega)).mono ?_; rintro e w4 ⟨v4, rfl, hv4, hb4⟩; obtain ⟨ad4, cap4, rfl⟩ := hv4.form; have HV4 := Hid.mk' hv4; have HB4 := Hid.mk' hb4; clear hv4 hb4)
    | (go_at_call 16; refine (HEN.out w4 _ _ (below_chain (below_chain HB1.out HB3.out) HB4.out) (HV3.out.later HB4.out) HV4.out).mono ?_; rintro e w5 ⟨rfl, hb5⟩; have HB5 := Hid.mk' (below_chain (below_chain (below_chain HB1.out HB3.out) HB4.out) hb5); have HBY := Hid.mk' (more_below HB5.out (.cells #[.int .i64 y, .int .i64 d] 42)); clear hb5)
    | (go_at_call 19; refine (HVO.out _ HBY.out).mono ?_; rintro e w6 ⟨r6, rfl, hr6, hb6⟩; have HR6 := Hid.mk' hr6; have HB6 := Hid.mk' hb6; clear hr6 hb6)
    | (go_at_call 18; refine (HTO.out w6 _ HR6.out).mono ?_; rintro e w7 ⟨rfl, hb7⟩; have hh := res_past (below_chain (below_chain HB6.out hb7) (new_below w7 (.cells #[.int .i64 y, .int .i64 d] 42))); have y0 := hh.1; have y1 := hh.2.1; have HB7 := Hid.mk' (below_chain (below_chain HBY.out HB6.out) (below_chain hb7 (new_below w7 (.cells #[.int .i64 y, .int .i64 d] 42)))); clear hb7 hh))
  go_ret
  exact ⟨rfl, HB7.out⟩

theorem DistVariation_all (a : Nat → Addr) (ad : Option Addr) (n cap : Nat) (p : Nat → Int) (ad' : Option Addr) (m cap' : Nat) (q : Nat → Int) (w : World) (hE : Errs w a) (h : NumsAt w (.slice ad n cap) n p) (hm : n ≤ maxLen) (k : NumsAt w (.slice ad' m cap') m q) (hm' : m ≤ maxLen) :
    Calls Tryz.prog 5 #[.slice ad n cap, .slice ad' m cap'] w fun e w' => e = .returned (.bool true) ∧ Below w.heap.size w w' := by
  by_cases hn : n ≤ 400 ∧ m ≤ 400
  · by_cases h0 : twoErr p n q m = 0
    · obtain ⟨rfl, h16, hok1, hok2⟩ := twoErr_ok h0
      have hp := hok1.posN
      obtain ⟨P, hP⟩ := Int.eq_ofNat_of_zero_le (Int.le_of_lt hok1.pos)
      obtain ⟨Q, hQ⟩ := Int.eq_ofNat_of_zero_le (Int.le_of_lt hok2.pos)
      rcases h with ⟨_, _, _, h4⟩ | ⟨b, o, c1, hv, _, hr⟩
      · omega
      rcases k with ⟨_, _, _, h4⟩ | ⟨b', o', c2, hu, _, kr⟩
      · omega
      simp only [Value.slice.injEq, true_and] at hv hu
      obtain ⟨rfl, rfl⟩ := hv
      obtain ⟨rfl, rfl⟩ := hu
      exact DistVariation_ok a b o n cap b' o' cap' P Q p q w hE hr kr h0 hP hQ
    · exact DistVariation_bad a ad ad' n cap m cap' p q w hE h k hn.1 hn.2 h0
  · exact DistVariation_long a ad ad' n cap m cap' w hE hn hm hm'
end Go.Proofs.YtgellgobgiolnaaGreatDoor

/- What the rows' condition on package variables gives a walk: eight different sentinels with their texts, and the handle of the type error. -/
namespace Go.Proofs.YtgellgobgiolnaaGreatDoor
open Go.ChangeShapes Go.WideShapes Go.RowKit

theorem Tryz.own : ownKnob Tryz.prog.godebug = none := by kernel_rfl
theorem Tryz.et : Tryz.prog.globalNamed "errors.errorType" = some 8 := by kernel_rfl
theorem Tryz.rt : (Tryz.prog.cutTypes.find? (·.1 == "internal/reflectlite.rtype")).map (·.2) = some 150 := by kernel_rfl
theorem Tryz.oneRow : ((List.range 216).filter fun t => Tryz.prog.rowNamed t [101, 114, 114, 111, 114]) = [31] := by kernel_rfl
theorem Tryz.size : Tryz.prog.types.size = 216 := by kernel_rfl
theorem Tryz.star : ("*" ++ "errors.errorString" : String) = "*errors.errorString" := by decide
theorem Tryz.rowE (u : TypeId) (h : Tryz.prog.typeName? 3 u = some "*errors.errorString") : u = 184 :=
  typeName_ptr_named (nm := "errors.errorString") (by rw [Tryz.star]; kernel_rfl) (by kernel_rfl) (by decide) u (by rw [Tryz.star]; exact h)
theorem Tryz.cellsE : Tryz.prog.cellsOf 204 = 1 := by kernel_rfl
theorem Tryz.cellsS : Tryz.prog.cellsOf 9 = 1 := by kernel_rfl
theorem Tryz.g0 : Tryz.prog.globalNamed "demon/api.ErrText" = some 3 := by kernel_rfl
theorem Tryz.g1 : Tryz.prog.globalNamed "demon/api.ErrBound" = some 1 := by kernel_rfl
theorem Tryz.g2 : Tryz.prog.globalNamed "demon/api.ErrShape" = some 2 := by kernel_rfl
theorem Tryz.g3 : Tryz.prog.globalNamed "demon/api.ErrZero" = some 0 := by kernel_rfl
theorem Tryz.g4 : Tryz.prog.globalNamed "demon/api.ErrName" = some 4 := by kernel_rfl
theorem Tryz.g5 : Tryz.prog.globalNamed "demon/api.ErrNone" = some 5 := by kernel_rfl
theorem Tryz.g6 : Tryz.prog.globalNamed "demon/api.ErrOrder" = some 6 := by kernel_rfl
theorem Tryz.g7 : Tryz.prog.globalNamed "demon/api.ErrKind" = some 7 := by kernel_rfl

/-- Any number of listed sentinels of one type: each one's pointer, text and row; no two are one. -/
theorem laid_list {P : Program} {W : World} {nm : String} {ti tp te ts : TypeId} {ms : Array (String × TypeId)} {f : Field}
    (hi : P.underlying ti = some (.interface ms)) (hrow : ∀ u, P.typeName? 3 u = some nm → u = tp)
    (hp : P.underlying tp = some (.pointer te)) (he : P.underlying te = some (.struct #[f])) (hft : f.type = ts) (hfo : f.offset = 0) (hs : P.underlying ts = some .string) (hc : P.cellsOf te = 1) (hcs : P.cellsOf ts = 1) :
    ∀ (L : List (String × List UInt8)) (ps : List MemPlace), (∀ x, x ∈ L → ∃ g, P.globalNamed x.1 = some g ∧ (P.globals[g]?).map (·.type) = some ti) →
      DataW.LaidVars P W (L.map fun x => (x.1, .iface nm (.ptr (.agg [.lit (.string x.2)])))) ps → ps.Nodup →
      (∀ b off, MemPlace.cell b off ∈ ps → (∃ c t, W.heap[b]? = some (.cells c t (0, 0))) ∧ ∀ u v, W.cell? ⟨b, off, none⟩ = some (.iface u v) → Value.okWide P W .any 0 u v) →
      ∃ a : Nat → Addr, (∀ i x, L[i]? = some x → W.var? P x.1 = some #[.iface tp (.pointer (some (a i)))] ∧ (∃ s, W.cell? (a i) = some (.string s) ∧ s.data.toList = x.2) ∧
          (∃ c t, W.heap[(a i).block]? = some (.cells c t (0, 0))) ∧ MemPlace.cell (a i).block (a i).off ∈ ps) ∧
        ∀ i j, i < L.length → j < L.length → i ≠ j → a i ≠ a j := by
  intro L
  induction L with
  | nil => intro ps _ _ _ _; exact ⟨fun _ => default, fun i x h => by simp at h, fun i j h => by simp at h⟩
  | cons x r ih =>
    intro ps hgs hv hnd hrows
    obtain ⟨n, text⟩ := x
    obtain ⟨g0, t0, cs0, f0, p0, q0, hg0, ht0, hv0, hd0, hvr, e0⟩ := hv
    obtain ⟨g, hg, ht⟩ := hgs (n, text) (List.mem_cons_self ..)
    obtain rfl := Option.some.inj (hg.symm.trans hg0)
    obtain rfl := Option.some.inj (ht.symm.trans ht0)
    subst e0
    obtain ⟨l0⟩ := cs0
    have ok0 : ∀ u v, l0 = [.iface u v] → Value.okWide P W .any 0 u v := fun u v e => by
      subst e
      exact (hrows g 0 (by simp [MemPlace.row])).2 u v (by simpa using World.var?_cell hg0 hv0 0)
    obtain ⟨a0, s0, rfl, hc0, hs0, hz0, rfl⟩ := errorString_of_trod hi hrow hp he hft hfo hs hc hcs hd0 ok0
    obtain ⟨c0, tt0, hb0⟩ := (hrows a0.block a0.off (by simp [MemPlace.row])).1
    have hnq : q0.Nodup := List.Nodup.sublist (List.sublist_append_right _ _) hnd
    obtain ⟨a', ha', hne'⟩ := ih q0 (fun x hx => hgs x (List.mem_cons_of_mem _ hx)) hvr hnq (fun b off hm => hrows b off (List.mem_append_right _ hm))
    have hnot : MemPlace.cell a0.block a0.off ∉ q0 := by
      intro hm
      have := (List.nodup_append.1 hnd).2.2
      exact this (.cell a0.block a0.off) (by simp [MemPlace.row]) (.cell a0.block a0.off) hm rfl
    refine ⟨fun i => match i with | 0 => a0 | k + 1 => a' k, ?_, ?_⟩
    · intro i x hx
      cases i with
      | zero =>
        simp only [List.getElem?_cons_zero, Option.some.injEq] at hx
        subst hx
        exact ⟨hv0, ⟨s0, hc0, hs0⟩, ⟨c0, tt0, hb0⟩, by simp [MemPlace.row]⟩
      | succ k =>
        simp only [List.getElem?_cons_succ] at hx
        obtain ⟨h1, h2, h3, h4⟩ := ha' k x hx
        exact ⟨h1, h2, h3, List.mem_append_right _ h4⟩
    · have far : ∀ k, k < r.length → a0 ≠ a' k := fun k hk e => by
        obtain ⟨_, _, _, h4⟩ := ha' k r[k] (by simp [hk])
        rw [← e] at h4
        exact hnot h4
      intro i j hi' hj' hij
      cases i with
      | zero =>
        cases j with
        | zero => exact absurd rfl hij
        | succ k => exact far k (by simpa using hj')
      | succ m =>
        cases j with
        | zero => exact (far m (by simpa using hi')).symm
        | succ k => exact hne' m k (by simpa using hi') (by simpa using hj') (by omega)

/-- The names and texts, in the rows' order. -/
def eightNames : List (String × List UInt8) := [("demon/api.ErrText", [100, 101, 109, 111, 110, 58, 32, 116, 101, 120, 116]), ("demon/api.ErrBound", [100, 101, 109, 111, 110, 58, 32, 98, 111, 117, 110, 100]), ("demon/api.ErrShape", [100, 101, 109, 111, 110, 58, 32, 115, 104, 97, 112, 101]), ("demon/api.ErrZero", [100, 101, 109, 111, 110, 58, 32, 122, 101, 114, 111]), ("demon/api.ErrName", [100, 101, 109, 111, 110, 58, 32, 110, 97, 109, 101]), ("demon/api.ErrNone", [100, 101, 109, 111, 110, 58, 32, 110, 111, 110, 101]), ("demon/api.ErrOrder", [100, 101, 109, 111, 110, 58, 32, 111, 114, 100, 101, 114]), ("demon/api.ErrKind", [100, 101, 109, 111, 110, 58, 32, 107, 105, 110, 100])]
def laidAll : List (String × DataW Unit) := [("errors.errorType", Rows.laid_errors_errorType), ("demon/api.ErrText", Rows.laid_demon_api_ErrText), ("demon/api.ErrBound", Rows.laid_demon_api_ErrBound), ("demon/api.ErrShape", Rows.laid_demon_api_ErrShape), ("demon/api.ErrZero", Rows.laid_demon_api_ErrZero), ("demon/api.ErrName", Rows.laid_demon_api_ErrName), ("demon/api.ErrNone", Rows.laid_demon_api_ErrNone), ("demon/api.ErrOrder", Rows.laid_demon_api_ErrOrder), ("demon/api.ErrKind", Rows.laid_demon_api_ErrKind)]
theorem laidAll_parts (W : World) : laidMetH Tryz.prog laidAll W = (laidMet Tryz.prog (eightNames.map fun x => (x.1, .iface "*errors.errorString" (.ptr (.agg [.lit (.string x.2)])))) W ∧ handlesMet Tryz.prog [("errors.errorType", Rows.laid_errors_errorType)] W) := by kernel_rfl

theorem var_at {W : World} {n : String} {g : Nat} {v : Value} (hg : Tryz.prog.globalNamed n = some g) (h : W.var? Tryz.prog n = some #[v]) : W.cell? ⟨g, 0, none⟩ = some v := by
  simpa using World.var?_cell hg h 0

theorem errs_of_laid {W : World} (h : laidMetH Tryz.prog laidAll W) : ∃ a : Nat → Addr, Errs W a ∧ ∀ i x, eightNames[i]? = some x → ∃ s, W.cell? (a i) = some (.string s) ∧ s.data.toList = x.2 := by
  rw [laidAll_parts] at h
  obtain ⟨⟨ps, hv, hnd, hrows⟩, hh⟩ := h
  obtain ⟨name, u, ty, e1, e2, e3, e4, e5⟩ := hh _ (List.mem_singleton.2 rfl)
  have en : name = [101, 114, 114, 111, 114] := (Option.some.inj e1).symm
  subst en
  obtain rfl := Option.some.inj (Tryz.rt.symm.trans e2)
  have hm : ty ∈ (List.range 216).filter fun t => Tryz.prog.rowNamed t [101, 114, 114, 111, 114] := List.mem_filter.2 ⟨List.mem_range.2 (by rw [← Tryz.size]; exact e3), e4⟩
  rw [Tryz.oneRow] at hm
  obtain rfl := List.mem_singleton.1 hm
  have hth : typeHandle Tryz.prog 31 = .pointer (some ⟨9, 31, none⟩) := by kernel_rfl
  rw [hth] at e5
  obtain ⟨a, ha, hne⟩ := laid_list Tryz.underlying31 Tryz.rowE Tryz.underlying184 Tryz.underlying204 rfl rfl Tryz.underlying9 Tryz.cellsE Tryz.cellsS eightNames ps
    (fun x hx => by
      simp only [eightNames, List.mem_cons, List.not_mem_nil, or_false] at hx
      rcases hx with rfl | rfl | rfl | rfl | rfl | rfl | rfl | rfl
      · exact ⟨_, Tryz.g0, by kernel_rfl⟩
      · exact ⟨_, Tryz.g1, by kernel_rfl⟩
      · exact ⟨_, Tryz.g2, by kernel_rfl⟩
      · exact ⟨_, Tryz.g3, by kernel_rfl⟩
      · exact ⟨_, Tryz.g4, by kernel_rfl⟩
      · exact ⟨_, Tryz.g5, by kernel_rfl⟩
      · exact ⟨_, Tryz.g6, by kernel_rfl⟩
      · exact ⟨_, Tryz.g7, by kernel_rfl⟩) hv hnd hrows
  refine ⟨a, ⟨var_at Tryz.g0 (ha 0 _ rfl).1, var_at Tryz.g1 (ha 1 _ rfl).1, var_at Tryz.g2 (ha 2 _ rfl).1, var_at Tryz.g3 (ha 3 _ rfl).1, var_at Tryz.g4 (ha 4 _ rfl).1, var_at Tryz.g5 (ha 5 _ rfl).1, var_at Tryz.g6 (ha 6 _ rfl).1, var_at Tryz.g7 (ha 7 _ rfl).1, var_at Tryz.et e5, ?_, ?_⟩, fun i x hx => (ha i x hx).2.1⟩
  · intro i hi
    have hl : eightNames.length = 8 := rfl
    exact (ha i eightNames[i] (List.getElem?_eq_getElem (by omega))).2.2.1
  · intro i j hi hj hij
    exact hne i j hi hj hij

/-- The door's own heap meets the condition. -/
theorem door_met (os : Os) (args : Array Value) : laidMetH Tryz.prog laidAll ((World.doorLaid Tryz.prog 168 os).forCall (fun _ _ => 0) ⟨#[], args, []⟩).memory :=
  laidMetH_of_parts3 (fuel := 8) (laidMet_of_run' 8 (by kernel_rfl) (by kernel_rfl)) (by kernel_rfl) (by kernel_rfl)
end Go.Proofs.YtgellgobgiolnaaGreatDoor

/- A parameter of type []int opened. -/
namespace Go.Proofs.YtgellgobgiolnaaGreatDoor
open Go.ChangeShapes Go.WideShapes Go.ChangeAt Go.RowKit Go.Joins Go.Deep

theorem Tryz.laidOut : laidOutB Tryz.prog = true := by kernel_rfl
theorem Tryz.cellsInt : Tryz.prog.cellsOf 3 = 1 := by kernel_rfl
theorem Tryz.cellsInts : Tryz.prog.cellsOf 22 = 1 := by kernel_rfl

set_option maxRecDepth 100000 in
/-- What a parameter of type []int gives: its slice, its numbers. -/
theorem open_nums {H : Type} {enc : TypeId × Value → H} {W : World} {base : Nat} {v : Value} {d : DataW H} {p : List MemPlace} (hv : Value.okWide Tryz.prog W .any base 22 v)
    (h : DataW.Trod enc Tryz.prog W 0 (fun _ => true) true 22 v d p) :
    ∃ (ad : Option Addr) (n cap : Nat) (z : Nat → Int), v = .slice ad n cap ∧ n ≤ maxLen ∧ NumsAt W (.slice ad n cap) n z := by
  obtain ⟨ad, n, cap, rfl⟩ := okWide_slice Tryz.underlying22 hv
  obtain ⟨fuel, hf⟩ := h
  rcases open_ints Tryz.underlying22 Tryz.underlying3 Tryz.cellsInt hf with ⟨hc, _⟩ | ⟨a, len, cap', zs, hc, _, hl, hm, hz, _, hcell, _⟩
  · simp [Value.cells] at hc
    obtain ⟨rfl, rfl, rfl⟩ := hc
    exact ⟨none, 0, 0, fun _ => 0, rfl, Nat.zero_le _, Or.inl ⟨none, 0, rfl, rfl⟩⟩
  · simp [Value.cells] at hc
    obtain ⟨rfl, rfl, rfl⟩ := hc
    simp only [if_true] at hz
    rcases Nat.eq_zero_or_pos n with rfl | hpos
    · exact ⟨some a, 0, cap, fun _ => 0, rfl, Nat.zero_le _, Or.inl ⟨some a, cap, rfl, rfl⟩⟩
    · obtain ⟨b, o, spot⟩ := a
      have hspot : spot = none := by simpa [Addr.add] using World.cell?_spot (hcell 0 (by omega))
      subst hspot
      refine ⟨_, n, cap, fun i => zs.getD i 0, rfl, by omega, Or.inr ⟨b, o, cap, rfl, hpos, fun i hi => ?_⟩⟩
      have := hcell i (by omega)
      rw [Go.Proofs.YtgellgobgiolnaaGreatDoor.add_plain] at this
      exact this
end Go.Proofs.YtgellgobgiolnaaGreatDoor
