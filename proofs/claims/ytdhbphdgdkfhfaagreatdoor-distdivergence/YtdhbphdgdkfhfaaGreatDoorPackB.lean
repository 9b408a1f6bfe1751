/- The document's DivergenceOf. -/
import Derived.Test.YtdhbphdgdkfhfaaGreatDoorPackA
import Derived.Test.YtdhbphdgdkfhfaaGreatDoorWeights
import Derived.Test.YtdhbphdgdkfhfaaGreatDoorBig
import Derived.Test.YtdhbphdgdkfhfaaGreatDoorRows
import Derived.Test.YtdhbphdgdkfhfaaGreatDoorCode
import Derived.ChangeSame
import Derived.ChangeVars
import Derived.JoinedOf
import Derived.LaidLaws
import Derived.LaidHandle
import Derived.LaidMore
import Derived.Stop.Joined
import Derived.Test.YtdhbphdgdkfhfaaGreatDoorInts
import Derived.Test.YtdhbphdgdkfhfaaGreatDoorCards
import Derived.Test.YtdhbphdgdkfhfaaGreatDoorTie
import Derived.SevenTiedAt
import Derived.ProofKit
import Derived.OpenShut
import Derived.ChangeOld
import Derived.Lib.SmallJoins
import Derived.Deep.Matrix
namespace Go.Proofs.YtdhbphdgdkfhfaaGreatDoor
open Go.RowKit

set_option maxRecDepth 100000 in
set_option maxHeartbeats 4000000 in
theorem DivergenceOf_right (b o cap b' o' cap' n P Q : Nat) (p q : Nat → Int) (w : World) (h : RowAt w b o n p) (k : RowAt w b' o' n q) (hok1 : OkW p n) (hok2 : OkW q n) (hn : n ≤ 16) (hP : sumN p n = P) (hQ : sumN q n = Q) :
    Calls Tryz.prog 12 #[.slice (some ⟨b, o, none⟩) n cap, .slice (some ⟨b', o', none⟩) n cap'] w fun e w' => ((zeroB p q n = true ∧ e = .returned (.tuple #[.agg #[.int .i64 0, .slice none 0 0], .int .i64 4])) ∨ (zeroB p q n = false ∧ ∃ dn v, e = .returned (.tuple #[.agg #[.int .i64 dn, v], .int .i64 0]) ∧ LogBy w.heap.size P (fun x => sumN (divV p q P Q x) n) w' dn v)) ∧ Below w.heap.size w w' := by
  have hP1 : 1 ≤ P ∧ P ≤ 4096 := by have := hok1.pos; have := hok1.le; omega
  have hQ1 : 1 ≤ Q ∧ Q ≤ 4096 := by have := hok2.pos; have := hok2.le; omega
  obtain ⟨W0, hW0⟩ : ∃ W0, W0 = w.alloc (.cells #[.int .i64 0, .slice none 0 0] 27) := ⟨_, rfl⟩
  have hb0 : Below w.heap.size w W0 := by rw [hW0]; exact new_below _ _
  have hz0 : W0.heap.size = w.heap.size + 1 := by rw [hW0]; simp
  have hres : ∀ W, Below W0.heap.size W0 W → W.cell? ⟨w.heap.size, 0, none⟩ = some (.int .i64 0) ∧ W.cell? ⟨w.heap.size, 1, none⟩ = some (.slice none 0 0) ∧ W.frozen? ⟨w.heap.size, 0, none⟩ = false ∧ W.frozen? ⟨w.heap.size, 1, none⟩ = false := fun W hb => by
    rw [hW0] at hb
    exact res_past hb
  obtain ⟨W1, hW1⟩ : ∃ W1, W1 = W0.alloc (.cells #[.slice none 0 0, .slice none 0 0] 48) := ⟨_, rfl⟩
  have hb1 : Below W0.heap.size W0 W1 := by rw [hW1]; exact new_below _ _
  have hwd : WideAt W0.heap.size P W1 W0.heap.size (.slice none 0 0) (.slice none 0 0) [] := by
    rw [hW1]
    exact ⟨Nat.le_refl _, by simp, by simp, by simp, by simp, World.ownsRow_nil _ _ _ _, World.ownsRow_nil _ _ _ _, (fun e he => by cases he), fun _ => ⟨rfl, rfl⟩⟩
  have hs1 := Sum_some b o cap n p W1 ((h.later hb0).later hb1) (fun k hk => by have := hok1.part hk; omega) (fun i hi => by have := hok1.lt hi; omega) (by omega)
  have hs2 := Sum_some b' o' cap' n q W1 ((k.later hb0).later hb1) (fun k hk => by have := hok2.part hk; omega) (fun i hi => by have := hok2.lt hi; omega) (by omega)
  rw [hP] at hs1
  rw [hQ] at hs2
  have HR : Hid (∀ W, IntsKept W1 W → RowAt W b o n p ∧ RowAt W b' o' n q) := fun W hk => ⟨((h.later hb0).later hb1).kept hk, ((k.later hb0).later hb1).kept hk⟩
  have HI0 : Hid (WPuts W0.heap.size P W0.heap.size W1 W1 (fun x => sumN (divV p q P Q x) 0) (4 * 0) [] (.slice none 0 0) (.slice none 0 0) []) := WPuts.start hwd List.Pairwise.nil (fun x => rfl) 0
  have HPI : Hid (∀ i, i < n → 0 ≤ p i ∧ p i ≤ 4096) := fun i hi => hok1.lt hi
  have HQI : Hid (∀ i, i < n → 0 ≤ q i ∧ q i ≤ 4096) := fun i hi => hok2.lt hi
  have HB0 := Hid.mk' hb0
  have HB1 := Hid.mk' hb1
  have HRES := Hid.mk' hres
  have HW0 := Hid.mk' hW0
  have HW1 := Hid.mk' hW1
  have HZ0 := Hid.mk' hz0
  clear h k hb0 hb1 hres hW0 hW1 hz0 hwd hok1 hok2 hP hQ
  go_enter Tryz.func12, Tryz.ntmps12
  go_upto_region 1 with fail
  rw [← HW0.out]
  go_upto_region 2 with fail
  rw [← HW1.out]
  go_wp2_with fail
  refine hs1.mono ?_
  clear hs1
  rintro e w2 ⟨rfl, hw2⟩
  rw [hw2]
  clear hw2
  go_wp2_with fail
  refine hs2.mono ?_
  clear hs2
  rintro e w2 ⟨rfl, hw2⟩
  rw [hw2]
  clear hw2
  go_wp2_with fail
  go_loopw [9, 10, 11] (fun i _ _ wr => ∃ (k : Nat) (vp vc : Value) (L : List Ent), k ≤ n ∧ i = .int .i64 k ∧ Hid (WPuts W0.heap.size P W0.heap.size W1 wr (fun x => sumN (divV p q P Q x) k) (4 * k) [] vp vc L) ∧ Hid (zeroB p q k = false)) (fun i _ _ _ => n - (intOf i).toNat)
  case atStart => exact ⟨0, _, _, [], Nat.zero_le _, rfl, HI0, rfl⟩
  case round =>
    clear HI0
    obtain ⟨k, vp, vc, L, hk, rfl, HI, HZB⟩ := hrel
    rcases Nat.lt_or_ge k n with h1 | h1
    · have hcP := (HR.out _ HI.out.kept).1 k h1
      have hcQ := (HR.out _ HI.out.kept).2 k h1
      have hkn : (k : Int) < (n : Int) := by omega
      have hpk := HPI.out k h1
      have hqk := HQI.out k h1
      have HZ1 : Hid (zeroB p q (k + 1) = (decide (0 < p k) && decide (q k = 0))) := by show (zeroB p q k || _) = _; rw [HZB.out, Bool.false_or]
      have HZT : Hid (0 < p k → q k = 0 → zeroB p q n = true) := fun h2 h3 => (zeroB_iff p q n).2 ⟨k, h1, h2, h3⟩
      have HV : Hid (∀ x, sumN (divV p q P Q x) (k + 1) = sumN (divV p q P Q x) k + (p k * multI x (p k).toNat + (-(p k) * multI x P + (-(p k) * multI x (q k).toNat + p k * multI x Q)))) := fun x => by
        show sumN (divV p q P Q x) k + divV p q P Q x k = _
        unfold divV
        omega
      have HBD : Hid (∀ x, -100000000 ≤ atL (absL L) x ∧ atL (absL L) x ≤ 100000000) := fun x => by
        rw [HI.out.val]
        have h3 := sumN_bound (f := divV p q P Q x) (B := 400000) (n := k) (fun i hi => divV_le x (HPI.out i (by omega)) (HQI.out i (by omega)) hP1.2 hQ1.2)
        have : (k : Int) * 400000 ≤ 6400000 := by omega
        simp only [absL, List.map_nil, atL]
        omega
      have hl0 : L.length ≤ 2000 := by have := HI.out.len; simp at this; omega
      obtain ⟨y, hy⟩ := Int.eq_ofNat_of_zero_le hpk.1
      obtain ⟨u, hu⟩ := Int.eq_ofNat_of_zero_le hqk.1
      rw [hy] at hcP hpk HV HZ1 HZT
      rw [hu] at hcQ hqk HV HZ1 HZT
      simp only [Int.toNat_natCast] at HV
      have hy6 : y ≤ 4096 := by have := hpk.2; omega
      have hu6 : u ≤ 4096 := by have := hqk.2; omega
      have HCE : Hid (∀ W, IntsKept wr W → W.cell? ⟨b, o + k, none⟩ = some (.int .i64 (y : Int)) ∧ W.cell? ⟨b', o' + k, none⟩ = some (.int .i64 (u : Int))) := fun W hk' => ⟨hk' _ _ hcP, hk' _ _ hcQ⟩
      clear hy hu hpk hqk
      by_cases hy0 : y = 0
      · subst hy0
        have HV0 : Hid (∀ x, sumN (divV p q P Q x) k = sumN (divV p q P Q x) (k + 1)) := fun x => by rw [HV.out x]; simp
        have HZ2 : Hid (zeroB p q (k + 1) = false) := by show _ = _; rw [HZ1.out]; simp
        clear HV HZ1 HZT
        go_wp2_with fail
        exact ⟨⟨k + 1, vp, vc, L, h1, by go_num, HI.out.congr (by omega) HV0.out, HZ2⟩, by simp [intOf]; omega⟩
      · have hyb : ((y : Int) == 0) = false := by simpa using hy0
        by_cases hu0 : u = 0
        · subst hu0
          have HZF : Hid (zeroB p q n = true) := HZT.out (by omega) rfl
          have hbA : Below W0.heap.size W0 wr := HB1.out.trans HI.out.below
          obtain ⟨c0, c1, q0, q1⟩ := HRES.out wr hbA
          have HBW := Hid.mk' (below_chain HB0.out hbA)
          clear HZ1 HZT hbA
          go_wp2_with fail
          refine bodyPost_ret (v := .tuple #[.agg #[.int .i64 0, .slice none 0 0], .int .i64 4]) (by simp [results, Tryz.results12, go_sem, c0, c1]) rfl ⟨Or.inl ⟨HZF.out, rfl⟩, ?_⟩
          exact (HBW.out.setCell (by simp) _).setCell (by simp) _
        · have hub : ((u : Int) == 0) = false := by simpa using hu0
          have HZ2 : Hid (zeroB p q (k + 1) = false) := by show _ = _; rw [HZ1.out]; simp; omega
          have hBw := HI.out.wide.lt
          have hro := RatioOf_low (y : Int) P wr (by omega) hP1.1 (by omega)
          clear HZ1 HZT
          go_wp2_with fail
          refine hro.mono ?_
          clear hro hcP hcQ
          rintro e w3 ⟨r3, rfl, hr3, hb3⟩
          obtain ⟨s3, ad3, l3, ca3, ad4, l4, ca4, rfl⟩ := hr3.parts
          obtain ⟨W3, hW3⟩ : ∃ W3, W3 = w3.alloc (.cells #[.bool s3, .slice ad3 l3 ca3, .slice ad4 l4 ca4] 54) := ⟨_, rfl⟩
          have hbA : Below wr.heap.size wr W3 := by rw [hW3]; exact more_below hb3 _
          have HKB : Hid (KBox W0.heap.size W3 w3.heap.size s3 ad3 l3 ca3 ad4 l4 ca4) := by
            rw [hW3] at hbA ⊢
            exact ⟨by simp, by simp, by simp, HI.out.wide.not_mine' hbA hb3.size⟩
          have HRT : Hid (RatioAt W3 (.agg #[.bool s3, .slice ad3 l3 ca3, .slice ad4 l4 ca4]) (lowN P y) (lowD P y)) := by rw [hW3]; exact hr3.later (new_below _ _)
          have HI3 := Hid.mk' (HI.out.later hbA)
          have HK3 : Hid (IntsKept wr W3) := IntsKept.of_below hbA
          have hB3 := HI3.out.wide.lt
          have HW3 := Hid.mk' hW3
          clear hr3 hb3 hbA hW3 HI
          go_upto_region 11 with fail
          rw [← HW3.out]
          clear HW3
          have HKS : Hid (∀ W, Below W3.heap.size W3 W → W.cell? ⟨w3.heap.size, 0, none⟩ = some (.bool s3) ∧ W.cell? ⟨w3.heap.size, 1, none⟩ = some (.slice ad3 l3 ca3) ∧ W.cell? ⟨w3.heap.size, 2, none⟩ = some (.slice ad4 l4 ca4)) := fun W hb => by
            have := HKB.out.later hb hB3
            exact ⟨this.c0, this.c1, this.c2⟩
          have HRZ : Hid (∀ W, Calls Tryz.prog 17 #[.int .i64 0, .int .i64 1] W fun e w' => ∃ r, e = .returned r ∧ RatioAt w' r (lowN 1 0) (lowD 1 0) ∧ Below W.heap.size W w') := fun W => RatioOf_low 0 1 W (by omega) (by omega) (by omega)
          have HMI : Hid (∀ (W : World) (r : Value), Below W3.heap.size W3 W → RatioAt W r (lowN 1 0) (lowD 1 0) → Calls Tryz.prog 26 #[r, .agg #[.bool s3, .slice ad3 l3 ca3, .slice ad4 l4 ca4]] W fun e w' => ∃ r', e = .returned r' ∧ RatioAt w' r' (lowN P (-(y : Int))) (lowD P (-(y : Int))) ∧ Below W.heap.size W w') := fun W r hb hr' =>
            Minus_low P y r _ W hr' (HRT.out.later hb) hP1.1 hP1.2 (by omega)
          have hcur0 : Below W3.heap.size W3 W3 := Below.refl _ _
          have hcur : Below W3.heap.size W3 W3.drew := (Below.refl _ _).drew
          have hcurA : ∀ X, Below W3.heap.size W3 (W3.alloc X).drew := fun X => (new_below _ _).drew
          go_cut [11] from 41 to 65 (fun s' wx => ∃ Bs : Nat, s' = .pointer (some ⟨Bs, 0, none⟩) ∧ Hid (RBox W3 wx Bs (lowN P (-(y : Int))) (lowD P (-(y : Int)))))
          case first =>
            go_region_held3 (fun W => W.cell? ⟨w3.heap.size, 0, none⟩ = some (.bool s3) ∧ W.cell? ⟨w3.heap.size, 1, none⟩ = some (.slice ad3 l3 ca3) ∧ W.cell? ⟨w3.heap.size, 2, none⟩ = some (.slice ad4 l4 ca4))
              (first | exact HKS.out _ hcur0 | exact HKS.out _ hcur | exact HKS.out _ (hcurA _) | (refine HKS.out _ ?_; assumption) | (refine HKS.out _ (more_below ?_ _); assumption) | (refine HKS.out _ (below_set3 ?_ NB.hB _ _ _); assumption))
              (first
                | (go_at_call 26; refine (HMI.out _ _ ?_ (HX1.out _ ?_)).mono ?_; (first | exact hbw1 | exact more_below hbw1 _); (first | exact Below.refl _ _ | exact new_below _ _); rintro e w7 ⟨rv, rfl, hrv, hb7⟩; obtain ⟨sg, ad8, l8, cap8, ad9, l9, cap9, rfl⟩ := hrv.parts; (first | (have hbw7 := below_chain hbw1 hb7; try have NB := NB.later hb7) | (have hbw7 := below_chain (more_below hbw1 _) hb7; have NB := newBox3_of hbw1 hb7)); (try (have y0 := NB.c0; have y1 := NB.c1; have y2 := NB.c2; have y3 := NB.f0; have y4 := NB.f1; have y5 := NB.f2)); have HRV := Hid.mk' hrv; clear hrv hb7)
                | (go_at_call 17; refine (HRZ.out _).mono ?_; rintro e w5 ⟨r5, rfl, hr5, hb5⟩; obtain ⟨sg5, ad5, l5, cap5, ad6, l6, cap6, rfl⟩ := hr5.parts; (first | have hbw1 := below_chain hcur hb5 | (have hbw1 := below_chain (hcurA _) hb5; have NB := newBox3_of hcur0 (below_chain ((Below.refl _ _).drew) hb5))); have HX1 : Hid (∀ W, Below w5.heap.size w5 W → RatioAt W (.agg #[.bool sg5, .slice ad5 l5 cap5, .slice ad6 l6 cap6]) (lowN 1 0) (lowD 1 0)) := (fun W hb => hr5.later hb); clear hr5 hb5))
            all_goals
              go_wp2_with fail
              go_meet
              first | exact ⟨_, rfl, rBox_late hbw7 HRV.out⟩ | exact ⟨_, rfl, rBox_soon hbw7 HRV.out NB⟩
          case rest =>
          obtain ⟨Bs, rfl, HRB⟩ := hcut
          obtain ⟨Wc, hWc⟩ : ∃ Wc, Wc = wc := ⟨_, rfl⟩
          rw [← hWc] at HRB ⊢
          clear hWc hcur0 hcur hcurA HMI HRZ HKS
          obtain ⟨sg, ad8, l8, cap8, ad9, l9, cap9, x0, x1, x2, hrat⟩ := HRB.out.box
          have HI4 := Hid.mk' (HI3.out.later HRB.out.below)
          have HLS : Hid (KBox W0.heap.size Wc Bs sg ad8 l8 cap8 ad9 l9 cap9) := ⟨x0, x1, x2, HI3.out.wide.not_mine' HRB.out.below HRB.out.hB⟩
          have HCB := Hid.mk' (HKB.out.later HRB.out.below hB3)
          have HRC := Hid.mk' (HRT.out.later HRB.out.below)
          have HRL := Hid.mk' hrat
          have HKW : Hid (IntsKept wr Wc) := HK3.out.trans (IntsKept.of_below HRB.out.below)
          have hBc := HI4.out.wide.lt
          clear hrat x0 x1 x2 HKB HRT HK3 HI3 HRB hB3
          have NUM : Hid (∀ (W : World) (m : Nat) (t : Int) (r vp' vc' : Value) (L' : List Ent) (g : Int → Int) (c : Nat), WPuts W0.heap.size P W0.heap.size Wc W g c L vp' vc' L' → c ≤ 3 → (∀ x, -300000 ≤ g x ∧ g x ≤ 300000) → RatioAt Wc r (lowN P t) (lowD P t) → 1 ≤ m → m ≤ 4096 → (-4096 ≤ t ∧ t ≤ 4096) → Calls Tryz.prog 27 #[.pointer (some ⟨W0.heap.size, 0, none⟩), .int .i64 (m : Int), r] W fun e w' => e = .returned (.tuple #[]) ∧ ∃ vp'' vc'' L'', WPuts W0.heap.size P W0.heap.size Wc w' (fun x => g x + t * multI x m) (c + 1) L vp'' vc'' L'') := fun W m t r vp' vc' L' g c hw hc hg hr' hm1 hm2 ht => by
            refine (Number_by W0.heap.size P W0.heap.size m t r vp' vc' L' W hw.wide (hr'.kept hw.kept) hP1.1 hP1.2 hw.rise (by have := hw.len; omega) hm1 (by omega) (fun x => by rw [hw.val]; have h2 := HBD.out x; have h3 := hg x; omega) (by omega)).mono ?_
            rintro e w' ⟨rfl, vp'', vc'', L'', hq⟩
            exact ⟨rfl, vp'', vc'', L'', hw.trans hq⟩
          have MW := Hid.mk' (fun (x : Int) (m : Nat) (hm : m ≤ 4096) => mul_weight (t := (y : Int)) (by omega) (multI_small x (n := m) (by omega)))
          have MN := Hid.mk' (fun (x : Int) (m : Nat) (hm : m ≤ 4096) => mul_weight (t := -(y : Int)) (by omega) (multI_small x (n := m) (by omega)))
          have HCW : Hid (∀ W, IntsKept Wc W → W.cell? ⟨b, o + k, none⟩ = some (.int .i64 (y : Int)) ∧ W.cell? ⟨b', o' + k, none⟩ = some (.int .i64 (u : Int))) := fun W hk' => HCE.out W (HKW.out.trans hk')
          have HST : Hid (WPuts W0.heap.size P W0.heap.size Wc Wc (fun _ => 0) 0 L vp vc L) := WPuts.start HI4.out.wide HI4.out.rise (fun _ => rfl) 0
          -- the first: p's own
          have N1 : Hid (∀ W, Below Wc.heap.size Wc W → Calls Tryz.prog 27 #[.pointer (some ⟨W0.heap.size, 0, none⟩), .int .i64 (y : Int), .agg #[.bool s3, .slice ad3 l3 ca3, .slice ad4 l4 ca4]] W fun e w' => e = .returned (.tuple #[]) ∧ ∃ vp'' vc'' L'', WPuts W0.heap.size P W0.heap.size Wc w' (fun x => 0 + (y : Int) * multI x y) (0 + 1) L vp'' vc'' L'') := fun W hb => NUM.out W y y _ vp vc L (fun _ => 0) 0 (HST.out.later hb) (by omega) (fun x => by omega) HRC.out (by omega) hy6 (by omega)
          have hS1 : ∀ W, IntsKept Wc W → Moved W0.heap.size Wc W → (W.cell? ⟨w3.heap.size, 0, none⟩ = some (.bool s3) ∧ W.cell? ⟨w3.heap.size, 1, none⟩ = some (.slice ad3 l3 ca3) ∧ W.cell? ⟨w3.heap.size, 2, none⟩ = some (.slice ad4 l4 ca4)) ∧ W.cell? ⟨b, o + k, none⟩ = some (.int .i64 (y : Int)) := fun W hk' hm' => ⟨⟨(HCB.out.moved hm').c0, (HCB.out.moved hm').c1, (HCB.out.moved hm').c2⟩, (HCW.out W hk').1⟩
          have HS1 := Hid.mk' hS1
          have HS1B : Hid (∀ W, Below Wc.heap.size Wc W → (W.cell? ⟨w3.heap.size, 0, none⟩ = some (.bool s3) ∧ W.cell? ⟨w3.heap.size, 1, none⟩ = some (.slice ad3 l3 ca3) ∧ W.cell? ⟨w3.heap.size, 2, none⟩ = some (.slice ad4 l4 ca4)) ∧ W.cell? ⟨b, o + k, none⟩ = some (.int .i64 (y : Int))) := fun W hb => HS1.out W (IntsKept.of_below hb) (Moved.of_below hb hBc)
          clear hS1
          have hcur0 : Below Wc.heap.size Wc Wc := Below.refl _ _
          have hcur : Below Wc.heap.size Wc Wc.drew := (Below.refl _ _).drew
          go_upto_region 12 with fail
          go_cut [] from 44 to 65 (fun wx => ∃ (vp' vc' : Value) (L' : List Ent), Hid (WPuts W0.heap.size P W0.heap.size Wc wx (fun x => 0 + (y : Int) * multI x y) (0 + 1) L vp' vc' L'))
          case first =>
            go_region_held3 (fun W => (W.cell? ⟨w3.heap.size, 0, none⟩ = some (.bool s3) ∧ W.cell? ⟨w3.heap.size, 1, none⟩ = some (.slice ad3 l3 ca3) ∧ W.cell? ⟨w3.heap.size, 2, none⟩ = some (.slice ad4 l4 ca4)) ∧ W.cell? ⟨b, o + k, none⟩ = some (.int .i64 (y : Int)))
              (first | exact HS1B.out _ hcur0 | exact HS1B.out _ hcur | exact HT5.out)
              (first | (go_at_call 27; refine (N1.out _ hcur).mono ?_; rintro e w5 ⟨rfl, vp5, vc5, L5, hq5⟩; have HT5 := Hid.mk' (HS1.out w5 hq5.kept hq5.moved); have HQ5 := Hid.mk' hq5; clear hq5))
            all_goals
              go_wp2_with fail
              go_meet
              exact ⟨_, _, _, HQ5⟩
          case rest =>
          obtain ⟨vp5, vc5, L5, HQ5⟩ := hcut
          obtain ⟨W5, hW5⟩ : ∃ W5, W5 = wc := ⟨_, rfl⟩
          rw [← hW5] at HQ5 ⊢
          clear hW5 hcur0 hcur N1 HS1B HS1
          have K5 := HLS.out.moved HQ5.out.moved
          have x0 := K5.c0
          have x1 := K5.c1
          have x2 := K5.c2
          have n2 := NUM.out W5 P (-(y : Int)) _ vp5 vc5 L5 _ _ HQ5.out (by omega) (fun x => by have := MW.out x y hy6; omega) HRL.out hP1.1 hP1.2 (by omega)
          clear K5
          go_wp2_with fail
          refine n2.mono ?_
          clear n2 x0 x1 x2
          rintro e w6 ⟨rfl, vp6, vc6, L6, hq6⟩
          have HQ6 := Hid.mk' hq6
          clear hq6 HQ5
          have N3 : Hid (∀ W, Below w6.heap.size w6 W → Calls Tryz.prog 27 #[.pointer (some ⟨W0.heap.size, 0, none⟩), .int .i64 (u : Int), .agg #[.bool sg, .slice ad8 l8 cap8, .slice ad9 l9 cap9]] W fun e w' => e = .returned (.tuple #[]) ∧ ∃ vp'' vc'' L'', WPuts W0.heap.size P W0.heap.size Wc w' (fun x => 0 + (y : Int) * multI x y + -(y : Int) * multI x P + -(y : Int) * multI x u) (0 + 1 + 1 + 1) L vp'' vc'' L'') := fun W hb => NUM.out W u (-(y : Int)) _ vp6 vc6 L6 _ _ (HQ6.out.later hb) (by omega) (fun x => by have h1 := MW.out x y hy6; have h2 := MN.out x P hP1.2; omega) HRL.out (by omega) hu6 (by omega)
          have HS3 : Hid (∀ W, IntsKept Wc W → Moved W0.heap.size Wc W → (W.cell? ⟨Bs, 0, none⟩ = some (.bool sg) ∧ W.cell? ⟨Bs, 1, none⟩ = some (.slice ad8 l8 cap8) ∧ W.cell? ⟨Bs, 2, none⟩ = some (.slice ad9 l9 cap9)) ∧ W.cell? ⟨b', o' + k, none⟩ = some (.int .i64 (u : Int))) := fun W hk' hm' => ⟨⟨(HLS.out.moved hm').c0, (HLS.out.moved hm').c1, (HLS.out.moved hm').c2⟩, (HCW.out W hk').2⟩
          have hB6 := HQ6.out.wide.lt
          have HS3B : Hid (∀ W, Below w6.heap.size w6 W → (W.cell? ⟨Bs, 0, none⟩ = some (.bool sg) ∧ W.cell? ⟨Bs, 1, none⟩ = some (.slice ad8 l8 cap8) ∧ W.cell? ⟨Bs, 2, none⟩ = some (.slice ad9 l9 cap9)) ∧ W.cell? ⟨b', o' + k, none⟩ = some (.int .i64 (u : Int))) := fun W hb => HS3.out W (HQ6.out.kept.trans (IntsKept.of_below hb)) (HQ6.out.moved.trans (Moved.of_below hb hB6))
          have hcur0 : Below w6.heap.size w6 w6 := Below.refl _ _
          have hcur : Below w6.heap.size w6 w6.drew := (Below.refl _ _).drew
          go_upto_region 14 with fail
          go_cut [] from 55 to 65 (fun wx => ∃ (vp' vc' : Value) (L' : List Ent), Hid (WPuts W0.heap.size P W0.heap.size Wc wx (fun x => 0 + (y : Int) * multI x y + -(y : Int) * multI x P + -(y : Int) * multI x u) (0 + 1 + 1 + 1) L vp' vc' L'))
          case first =>
            go_region_held3 (fun W => (W.cell? ⟨Bs, 0, none⟩ = some (.bool sg) ∧ W.cell? ⟨Bs, 1, none⟩ = some (.slice ad8 l8 cap8) ∧ W.cell? ⟨Bs, 2, none⟩ = some (.slice ad9 l9 cap9)) ∧ W.cell? ⟨b', o' + k, none⟩ = some (.int .i64 (u : Int)))
              (first | exact HS3B.out _ hcur0 | exact HS3B.out _ hcur | exact HT7.out)
              (first | (go_at_call 27; refine (N3.out _ hcur).mono ?_; rintro e w7 ⟨rfl, vp7, vc7, L7, hq7⟩; have HT7 := Hid.mk' (HS3.out w7 hq7.kept hq7.moved); have HQ7 := Hid.mk' hq7; clear hq7))
            all_goals
              go_wp2_with fail
              go_meet
              exact ⟨_, _, _, HQ7⟩
          case rest =>
          obtain ⟨vp7, vc7, L7, HQ7⟩ := hcut
          obtain ⟨W7, hW7⟩ : ∃ W7, W7 = wc := ⟨_, rfl⟩
          rw [← hW7] at HQ7 ⊢
          clear hW7 hcur0 hcur N3 HS3B HS3 HQ6
          have K7 := HCB.out.moved HQ7.out.moved
          have x0 := K7.c0
          have x1 := K7.c1
          have x2 := K7.c2
          have n4 := NUM.out W7 Q (y : Int) _ vp7 vc7 L7 _ _ HQ7.out (by omega) (fun x => by have h1 := MW.out x y hy6; have h2 := MN.out x P hP1.2; have h3 := MN.out x u hu6; omega) HRC.out hQ1.1 hQ1.2 (by omega)
          clear K7
          go_wp2_with fail
          refine n4.mono ?_
          clear n4 x0 x1 x2
          rintro e w8 ⟨rfl, vp8, vc8, L8, hq8⟩
          have HQ8 : Hid (WPuts W0.heap.size P W0.heap.size W1 w8 (fun x => sumN (divV p q P Q x) (k + 1)) (4 * (k + 1)) [] vp8 vc8 L8) := (HI4.out.trans hq8).congr (by omega) (fun x => by rw [HV.out x]; omega)
          clear hq8 HQ7
          go_wp2_with fail
          exact ⟨⟨k + 1, vp8, vc8, L8, h1, by go_num, HQ8, HZ2⟩, by simp [intOf]; omega⟩
    · obtain rfl : k = n := by omega
      have hbA : Below W0.heap.size W0 wr := HB1.out.trans HI.out.below
      have ht := WTold_by W0.heap.size P W0.heap.size vp vc L (fun x => sumN (divV p q P Q x) k) wr HI.out.wide HI.out.rise hP1.1 hP1.2 (by have := HI.out.len; simp at this; omega) (fun x => by have := HI.out.val x; simpa [absL, atL] using this) (fun x => by
        have h3 := sumN_bound (f := divV p q P Q x) (B := 400000) (n := k) (fun i hi => divV_le x (HPI.out i (by omega)) (HQI.out i (by omega)) hP1.2 hQ1.2)
        have : (k : Int) * 400000 ≤ 6400000 := by omega
        omega)
      go_wp2_with fail
      refine ht.mono ?_
      clear ht
      rintro e w4 ⟨dn, v, rfl, hlb, hb4⟩
      obtain ⟨c0, c1, q0, q1⟩ := HRES.out w4 (below_chain hbA hb4)
      have HBW := Hid.mk' (below_chain HB0.out (below_chain hbA hb4))
      have HLT : Hid (w.heap.size < wr.heap.size) := by have h1 := HZ0.out; have h2 := hbA.size; show _ < _; omega
      have HLB := Hid.mk' hlb
      obtain ⟨ad9, n9, c9, rfl⟩ := hlb.form
      clear hlb hbA hb4
      go_wp2_with fail
      refine bodyPost_ret (v := .tuple #[.agg #[.int .i64 dn, .slice ad9 n9 c9], .int .i64 0]) (by simp [results, Tryz.results12, go_sem, c0, c1]) rfl ⟨Or.inr ⟨HZB.out, _, .slice ad9 n9 c9, rfl, (HLB.out.set HLT.out _ _).lower (Nat.le_of_lt HLT.out)⟩, ?_⟩
      exact (HBW.out.setCell (by simp) _).setCell (by simp) _
end Go.Proofs.YtdhbphdgdkfhfaaGreatDoor

/- The law's closed fact: of a fair coin the entropy is 1. -/
namespace Go.Proofs.YtdhbphdgdkfhfaaGreatDoor
open Go.RowKit Go.Maps

theorem pr_two' : Pr 2 := (isPr_iff 2).1 (by decide)
theorem coin_val (x : Int) : sumN (entV (fun _ => 3) 6 x) 2 = atL [((2 : Int), (6 : Int))] x := by
  have h := multI_step x (n := 6) (d := 2) (by decide) pr_two' (by decide)
  have e : 6 / 2 = 3 := by decide
  rw [e] at h
  show 0 + (3 * multI x 6 - 3 * multI x (3 : Int).toNat) + (3 * multI x 6 - 3 * multI x (3 : Int).toNat) = if (2 : Int) = x then 6 else 0
  have e3 : (3 : Int).toNat = 3 := rfl
  rw [e3, h]
  rw [show ((2 : Nat) : Int) = 2 from rfl]
  by_cases hx : x = 2
  · subst hx; simp; omega
  · rw [if_neg hx, if_neg (fun e => hx e.symm)]; omega
theorem coin_list {base : Nat} {w : World} {dn : Int} {v : Value} (h : LogBy base 6 (fun x => sumN (entV (fun _ => 3) 6 x) 2) w dn v) : dn = 1 ∧ OwnAt w v 1 (fun _ => 2) (fun _ => 1) := by
  obtain ⟨l, hr, hv, _, hd, hl⟩ := h.list
  have he : ∀ x, atL l x = atL [((2 : Int), (6 : Int))] x := fun x => by rw [hv, coin_val]
  have hr' : Rising [((2 : Int), (6 : Int))] := List.pairwise_singleton _ _
  rw [gList_same hr hr' he, over_same hr hr' he] at hl
  rw [gList_same hr hr' he] at hd
  have e1 : overL (gList 6 (List.map Prod.snd [((2 : Int), (6 : Int))])) [((2 : Int), (6 : Int))] = [(2, 1)] := by decide
  rw [e1] at hl
  refine ⟨by rw [hd]; decide, ?_⟩
  rcases hl with ⟨_, h0⟩ | ⟨g, cap, h1, h2⟩
  · cases h0
  · refine Or.inr ⟨g, cap, h1, fun k hk => ?_⟩
    obtain rfl : k = 0 := by omega
    exact h2 0 (by decide)

set_option maxRecDepth 100000 in
set_option maxHeartbeats 1000000 in
theorem coin_any (a : Nat → Addr) (w : World) (hE : Errs w a) : Calls Tryz.prog 5 #[] w fun e w' => e = .returned (.bool true) ∧ Below w.heap.size w w' := by
  have hb0 : Below w.heap.size w (w.alloc (.cells #[.int .i64 3, .int .i64 3] 3)) := new_below _ _
  have hent := Entropy_ok a w.heap.size 0 2 2 6 (fun _ => 3) (w.alloc (.cells #[.int .i64 3, .int .i64 3] 3)) (hE.below hb0) (fun i hi => by
    rcases (show i = 0 ∨ i = 1 by omega) with rfl | rfl
    · simp
    · simp) (by decide) (by decide) (fun i _ => by decide) (by decide) (by decide) (by decide) (by decide)
  have HB0 := Hid.mk' hb0
  clear hE hb0
  go_enter Tryz.func5, Tryz.ntmps5
  go_wp2_with fail
  refine hent.mono ?_
  clear hent
  rintro e w1 ⟨dn, v, rfl, hlb, hb1⟩
  obtain ⟨rfl, hown⟩ := coin_list hlb
  obtain ⟨ad, m, cap, rfl⟩ := own_form hown
  have hbW : Below w1.heap.size w1 ((w1.alloc (.cells #[.int .i64 1, .slice ad m cap] 27)).alloc (.cells #[.int .i64 2, .int .i64 1] 43)) := below_chain (new_below _ _) (new_below _ _)
  have hS := same_own 1 (.slice ad m cap) (.slice (some ⟨w1.heap.size + 1, 0, none⟩) 1 1) 1 (fun _ => 2) (fun _ => 1) ((w1.alloc (.cells #[.int .i64 1, .slice ad m cap] 27)).alloc (.cells #[.int .i64 2, .int .i64 1] 43)) (OwnAt.later hown hbW)
    (Or.inr ⟨w1.heap.size + 1, 1, rfl, fun k hk => by
      obtain rfl : k = 0 := by omega
      exact ⟨by simp, by simp⟩⟩) (by decide)
  have HB := Hid.mk' (below_chain (below_chain HB0.out hb1) hbW)
  clear hlb hown hb1 hbW HB0
  go_wp2_with fail
  refine hS.mono ?_
  clear hS
  rintro e w2 ⟨rfl, hb2⟩
  go_wp2_with fail
  go_ret
  exact ⟨rfl, below_chain HB.out hb2⟩
end Go.Proofs.YtdhbphdgdkfhfaaGreatDoor

/- The law's copies of lists. -/
namespace Go.Proofs.YtdhbphdgdkfhfaaGreatDoor
open Go.RowKit

theorem append_zeroI (w : World) (ty : TypeId) (ad : Option Addr) (cap : Nat) : (Builtin.append_ #[22, 22] ty #[.slice none 0 0, .slice ad 0 cap]).run Tryz.prog w = .ok (.slice none 0 0) w := by
  obtain ⟨i, hi, hi2⟩ := Option.map_eq_some_iff.1 Tryz.infoInt
  refine run_append_nothing w _ _ ty 3 i Tryz.underlying22 hi none 0 0 (Nat.le_refl _) _ ?_
  cases ad with
  | none => exact Src.ofNil w Tryz.underlying22 cap
  | some a => exact Src.ofSlice w Tryz.underlying22 a 0 cap [] (by simp) (fun j u h => by simp at h) (fun u h => by simp at h)
theorem wpList_append_zeroI {w : World} {ops : Array Oper} {rest : List Oper} {o : Oper} {a : Act} {Q : Exit → Act → World → Prop} (hgd : o.guard = none) (s x : Operand)
    (ho : o.op = .call { callee := .builtin .append, args := #[s, x], argTypes := #[22, 22] })
    (ad : Option Addr) (cap : Nat) (hs : a.eval s = .slice none 0 0) (hx : a.eval x = .slice ad 0 cap)
    (h : wpList Tryz.prog ops Q rest (a.put o.dst (.slice none 0 0)) w) : wpList Tryz.prog ops Q (o :: rest) a w := by
  refine wpList_plain hgd fun K hK => ?_
  have hrun := append_zeroI w o.type ad cap
  unfold Oper.wp
  simp [execOp, ho, resolve, invoke, builtin, hs, hx, hrun, Result.andThen]
  exact hK _ _ h

theorem numsAt_own {w : World} {base : Nat} {v : Value} {n : Nat} {z : Nat → Int} (h : w.ownsRow base 3 1 v n (numCells z n)) : NumsAt w v n z := by
  rcases h.2 with ⟨hv, h0⟩ | ⟨g, cap, cur, hv, _⟩
  · exact Or.inl ⟨none, 0, hv, h0⟩
  · rcases Nat.eq_zero_or_pos n with h0 | h0
    · exact Or.inl ⟨_, _, by rw [hv, h0], h0⟩
    · subst hv
      exact Or.inr ⟨g, 0, cap, rfl, h0, rowAt_of_row h⟩
set_option maxRecDepth 100000 in
set_option maxHeartbeats 1000000 in
theorem ints_row (v : Value) (n : Nat) (z : Nat → Int) (w : World) (h : NumsAt w v n z) (hn : n ≤ 100000) :
    Calls Tryz.prog 9 #[v] w fun e w' => ∃ v', e = .returned v' ∧ w'.ownsRow w.heap.size 3 1 v' n (numCells z n) ∧ Below w.heap.size w w' := by
  rcases h with ⟨ad, cap, rfl, rfl⟩ | ⟨b, o, cap, rfl, h0, hr⟩
  · go_enter Tryz.func9, Tryz.ntmps9
    go_wp2_with (at_builtin; go_must (refine wpList_append_zeroI rfl _ _ rfl ad cap rfl rfl ?_))
    go_ret
    exact ⟨_, rfl, ⟨rfl, Or.inl ⟨rfl, rfl⟩⟩, Below.refl _ _⟩
  · obtain ⟨i, hi, hi2⟩ := Option.map_eq_some_iff.1 Tryz.infoInt
    obtain ⟨hz, hsz, hby⟩ : i.zero = some (.int .i64 0) ∧ i.size = 1 ∧ i.bytes = 8 := by simpa using hi2
    have HR := Hid.mk' hr
    have HI : Hid (Tryz.prog.info? 3 = some i) := hi
    have HZ : Hid (i.zero = some (.int .i64 0)) := hz
    have HS : Hid (i.size = 1) := hsz
    have HY : Hid (i.bytes = 8) := hby
    have HC : Hid (∀ u, u ∈ numCells z n → u.oneCell' = true) := fun u hu => by obtain ⟨x, rfl⟩ := numCells_ints z n u hu; rfl
    have HL : Hid ((numCells z n).length = n * 1) := by show _ = _; rw [numCells_length, Nat.mul_one]
    clear hr hi2 hi hz hsz hby
    go_enter Tryz.func9, Tryz.ntmps9
    go_wp2_with (at_builtin; go_must (refine wpList_append_lies _ rfl _ _ _ rfl w.heap.size 3 i _ 1 8 Tryz.underlying22 HI.out HZ.out HS.out HY.out rfl (by omega) (.slice none 0 0) 0 [] rfl ⟨rfl, Or.inl ⟨rfl, rfl⟩⟩ ⟨b, o, none⟩ n cap (numCells z n) rfl HL.out (fun j u hu => numCells_news HR.out j u hu) HC.out h0 (by unfold maxLen; omega) (by omega) (by simp) _ rfl ?_; intro g cap' w1 hown hgrow hat hlt; have HOWN := Hid.mk' hown; have HG := Hid.mk' hgrow; clear hown hgrow hat))
    go_ret
    exact ⟨_, rfl, by simpa using HOWN.out, (Below.refl _ _).grown HG.out (Nat.le_refl _) (fun k hk => by cases hk)⟩
theorem ints_any (v : Value) (n : Nat) (z : Nat → Int) (w : World) (h : NumsAt w v n z) (hn : n ≤ 100000) :
    Calls Tryz.prog 9 #[v] w fun e w' => ∃ v', e = .returned v' ∧ NumsAt w' v' n z ∧ Below w.heap.size w w' := by
  refine (ints_row v n z w h hn).mono ?_
  rintro e w' ⟨v', rfl, h1, h2⟩
  exact ⟨v', rfl, numsAt_own h1, h2⟩
end Go.Proofs.YtdhbphdgdkfhfaaGreatDoor

/- isLog at errors. -/
namespace Go.Proofs.YtdhbphdgdkfhfaaGreatDoor
open Go.RowKit

theorem isLog_bad (a : Nat → Addr) (c : Nat) (hc : c ≠ 0) (hc8 : c ≤ 8) (d2 : Int) (ad2 : Option Addr) (m2 cap2 : Nat) (w : World) (h : Errs w a) :
    Calls Tryz.prog 10 #[.agg #[.int .i64 0, .slice none 0 0], errV a c, .agg #[.int .i64 d2, .slice ad2 m2 cap2], .int .i64 (c : Int)] w fun e w' => e = .returned (.bool true) ∧ Below w.heap.size w w' := by
  have h1 := isLog_err a (c - 1) (by omega) d2 ad2 m2 cap2 w h
  rw [errV_pos a hc]
  have e : ((c - 1 : Nat) : Int) + 1 = (c : Int) := by omega
  rw [e] at h1
  exact h1
/-- A result's box behind calls. -/
theorem box_past2 {w w1 : World} {x y : Value} {t : TypeId} (hb : Below (w.alloc (.cells #[x, y] t)).heap.size (w.alloc (.cells #[x, y] t)) w1) : w1.cell? ⟨w.heap.size, 0, none⟩ = some x ∧ w1.cell? ⟨w.heap.size, 1, none⟩ = some y ∧ w1.frozen? ⟨w.heap.size, 0, none⟩ = false ∧ w1.frozen? ⟨w.heap.size, 1, none⟩ = false := res_past hb

end Go.Proofs.YtdhbphdgdkfhfaaGreatDoor

/- The law DistDivergence. -/
namespace Go.Proofs.YtdhbphdgdkfhfaaGreatDoor
open Go.RowKit

theorem twoErr_le (p q : Nat → Int) (n m : Nat) : twoErr p n q m ≤ 3 := by
  have h1 := weightsErr_le p n
  have h2 := weightsErr_le q m
  unfold twoErr
  repeat (split; omega)
  omega
set_option maxRecDepth 100000 in
set_option maxHeartbeats 2000000 in
theorem DistDivergence_long (a : Nat → Addr) (ad ad' : Option Addr) (n cap m cap' : Nat) (w : World) (hE : Errs w a) (hn : ¬ (n ≤ 400 ∧ m ≤ 400)) (hm : n ≤ maxLen) (hm' : m ≤ maxLen) :
    Calls Tryz.prog 4 #[.slice ad n cap, .slice ad' m cap'] w fun e w' => e = .returned (.bool true) ∧ Below w.heap.size w w' := by
  have hC := coin_any a w hE
  unfold maxLen at hm hm'
  clear hE
  by_cases h1 : n ≤ 400
  · have h2 : ¬ m ≤ 400 := fun h => hn ⟨h1, h⟩
    clear hn
    have hd : decide (400 < (n : Int)) = false := decide_eq_false (by omega)
    have hd' : (400 : Int) < (m : Int) := by omega
    go_enter Tryz.func4, Tryz.ntmps4
    go_wp2_with (go_at_call 5; refine hC.mono ?_; rintro e w1 ⟨rfl, hb1⟩; have HB1 := Hid.mk' hb1; clear hb1)
    go_ret
    exact ⟨rfl, HB1.out⟩
  · clear hn
    have hd' : (400 : Int) < (n : Int) := by omega
    go_enter Tryz.func4, Tryz.ntmps4
    go_wp2_with (go_at_call 5; refine hC.mono ?_; rintro e w1 ⟨rfl, hb1⟩; have HB1 := Hid.mk' hb1; clear hb1)
    go_ret
    exact ⟨rfl, HB1.out⟩

set_option maxRecDepth 100000 in
set_option maxHeartbeats 4000000 in
theorem DistDivergence_bad (a : Nat → Addr) (ad ad' : Option Addr) (n cap m cap' : Nat) (p q : Nat → Int) (w : World) (hE : Errs w a) (h : NumsAt w (.slice ad n cap) n p) (k : NumsAt w (.slice ad' m cap') m q) (hn : n ≤ 400) (hm : m ≤ 400) (h0 : twoErr p n q m ≠ 0) :
    Calls Tryz.prog 4 #[.slice ad n cap, .slice ad' m cap'] w fun e w' => e = .returned (.bool true) ∧ Below w.heap.size w w' := by
  have hC := coin_any a w hE
  have HN : Hid (∀ W, Below w.heap.size w W → NumsAt W (.slice ad n cap) n p) := fun W hb => h.later hb
  have HK : Hid (∀ W, Below w.heap.size w W → NumsAt W (.slice ad' m cap') m q) := fun W hb => k.later hb
  have HWE : Hid (∀ W, Below w.heap.size w W → Calls Tryz.prog 11 #[.slice ad n cap, .slice ad' m cap'] W fun e w' => e = .returned (.int .i64 (twoErr p n q m : Int)) ∧ w' = W) := fun W hb => TwoError_any _ _ n m p q W (h.later hb) (k.later hb) (by omega) (by omega)
  have HEN : Hid (∀ (W : World) (v u : Value), Below w.heap.size w W → NumsAt W v n p → NumsAt W u m q → Calls Tryz.prog 13 #[v, u] W fun e w' => e = .returned (.tuple #[.agg #[.int .i64 0, .slice none 0 0], errV a (twoErr p n q m)]) ∧ Below W.heap.size W w') := fun W v u hb hv hu => Divergence_bad a v u n m p q W (hE.below hb) hv hu hn hm h0
  have HIS : Hid (∀ W, Below w.heap.size w W → Calls Tryz.prog 10 #[.agg #[.int .i64 0, .slice none 0 0], errV a (twoErr p n q m), .agg #[.int .i64 0, .slice none 0 0], .int .i64 (twoErr p n q m : Int)] W fun e w' => e = .returned (.bool true) ∧ Below W.heap.size W w') := fun W hb => isLog_bad a _ h0 (by have := twoErr_le p q n m; omega) 0 none 0 0 W (hE.below hb)
  have hd : decide (400 < (n : Int)) = false := decide_eq_false (by omega)
  have hd' : decide (400 < (m : Int)) = false := decide_eq_false (by omega)
  obtain ⟨ev, hev⟩ : ∃ ev, ev = errV a (twoErr p n q m) := ⟨_, rfl⟩
  rw [← hev] at HEN HIS
  generalize twoErr p n q m = c at *
  clear hE h k hev
  have hcb : ((c : Int) == 0) = false := by simpa using h0
  go_enter Tryz.func4, Tryz.ntmps4
  go_wp2_with fail
  refine hC.mono ?_
  clear hC
  rintro e w1 ⟨rfl, hb1⟩
  have HB1 := Hid.mk' hb1
  clear hb1
  have HBX := Hid.mk' (below_chain HB1.out (new_below w1 (.cells #[.int .i64 0, .slice none 0 0] 27)))
  go_wp2_with (first
    | (go_at_call 11; refine (HWE.out w1 HB1.out).mono ?_; rintro e w2 ⟨rfl, hw2⟩; rw [hw2]; clear hw2)
    | (go_at_call_of 9 cap; refine (ints_any _ n p _ (HN.out _ HBX.out) (by omega)).mono ?_; rintro e w3 ⟨v3, rfl, hv3, hb3⟩; obtain ⟨ad3, cap3, rfl⟩ := hv3.form; have HV3 := Hid.mk' hv3; have HB3 := Hid.mk' hb3; clear hv3 hb3)
    | (go_at_call_of 9 cap'; refine (ints_any _ m q w3 (HK.out _ (below_chain HBX.out HB3.out)) (by omega)).mono ?_; rintro e w4 ⟨v4, rfl, hv4, hb4⟩; obtain ⟨ad4, cap4, rfl⟩ := hv4.form; have HV4 := Hid.mk' hv4; have HB4 := Hid.mk' hb4; clear hv4 hb4)
    | (go_at_call 13; refine (HEN.out w4 _ _ (below_chain (below_chain HBX.out HB3.out) HB4.out) (HV3.out.later HB4.out) HV4.out).mono ?_; rintro e w5 ⟨rfl, hb5⟩; have hbY := below_chain (below_chain (below_chain HB3.out HB4.out) hb5) (new_below w5 (.cells #[.int .i64 0, .slice none 0 0] 27)); obtain ⟨c0, c1, _, _⟩ := box_past2 hbY; have HBY := Hid.mk' (below_chain HBX.out hbY); clear hb5 hbY)
    | (go_at_call 10; refine (HIS.out _ HBY.out).mono ?_; rintro e w6 ⟨rfl, hb6⟩; have HB6 := Hid.mk' (below_chain HBY.out hb6); clear hb6))
  go_ret
  exact ⟨rfl, HB6.out⟩

set_option maxRecDepth 100000 in
set_option maxHeartbeats 4000000 in
theorem DistDivergence_ok (a : Nat → Addr) (b o n cap b' o' cap' P Q : Nat) (p q : Nat → Int) (w : World) (hE : Errs w a) (h : RowAt w b o n p) (k : RowAt w b' o' n q) (h0 : twoErr p n q n = 0) (hP : sumN p n = P) (hQ : sumN q n = Q) :
    Calls Tryz.prog 4 #[.slice (some ⟨b, o, none⟩) n cap, .slice (some ⟨b', o', none⟩) n cap'] w fun e w' => e = .returned (.bool true) ∧ Below w.heap.size w w' := by
  have hC := coin_any a w hE
  obtain ⟨_, hn, hok1, hok2⟩ := twoErr_ok h0
  have h0n := hok1.posN
  have HN : Hid (∀ W, Below w.heap.size w W → NumsAt W (.slice (some ⟨b, o, none⟩) n cap) n p) := fun W hb => Or.inr ⟨b, o, cap, rfl, h0n, h.later hb⟩
  have HK : Hid (∀ W, Below w.heap.size w W → NumsAt W (.slice (some ⟨b', o', none⟩) n cap') n q) := fun W hb => Or.inr ⟨b', o', cap', rfl, h0n, k.later hb⟩
  have HE : Hid (∀ W, Below w.heap.size w W → Errs W a) := fun W hb => hE.below hb
  have HWE : Hid (∀ W, Below w.heap.size w W → Calls Tryz.prog 11 #[.slice (some ⟨b, o, none⟩) n cap, .slice (some ⟨b', o', none⟩) n cap'] W fun e w' => e = .returned (.int .i64 0) ∧ w' = W) := fun W hb => by
    have := TwoError_any _ _ n n p q W (HN.out W hb) (HK.out W hb) (by omega) (by omega)
    rw [h0] at this
    exact this
  have HEO : Hid (∀ W, Below w.heap.size w W → Calls Tryz.prog 12 #[.slice (some ⟨b, o, none⟩) n cap, .slice (some ⟨b', o', none⟩) n cap'] W fun e w' => ((zeroB p q n = true ∧ e = .returned (.tuple #[.agg #[.int .i64 0, .slice none 0 0], .int .i64 4])) ∨ (zeroB p q n = false ∧ ∃ dn v, e = .returned (.tuple #[.agg #[.int .i64 dn, v], .int .i64 0]) ∧ LogBy W.heap.size P (fun x => sumN (divV p q P Q x) n) w' dn v)) ∧ Below W.heap.size W w') := fun W hb => DivergenceOf_right b o cap b' o' cap' n P Q p q W (h.later hb) (k.later hb) hok1 hok2 hn hP hQ
  have HEN : Hid (∀ (W : World) (v u : Value), Below w.heap.size w W → NumsAt W v n p → NumsAt W u n q → Calls Tryz.prog 13 #[v, u] W fun e w' => ((zeroB p q n = true ∧ e = .returned (.tuple #[.agg #[.int .i64 0, .slice none 0 0], errV a 4])) ∨ (zeroB p q n = false ∧ ∃ dn v, e = .returned (.tuple #[.agg #[.int .i64 dn, v], .nilIface]) ∧ LogBy W.heap.size P (fun x => sumN (divV p q P Q x) n) w' dn v)) ∧ Below W.heap.size W w') := fun W v u hb hv hu => by
    rcases hv with ⟨_, _, _, h1⟩ | ⟨b1, o1, cap1, rfl, _, hr1⟩
    · omega
    rcases hu with ⟨_, _, _, h1⟩ | ⟨b2, o2, cap2, rfl, _, hr2⟩
    · omega
    exact Divergence_right a b1 o1 cap1 b2 o2 cap2 n P Q p q W (hE.below hb) hr1 hr2 h0 hP hQ
  have hd : decide (400 < (n : Int)) = false := decide_eq_false (by omega)
  clear hE h k h0 hP hQ hok1 hok2
  go_enter Tryz.func4, Tryz.ntmps4
  go_wp2_with fail
  refine hC.mono ?_
  clear hC
  rintro e w1 ⟨rfl, hb1⟩
  have HB1 := Hid.mk' hb1
  clear hb1
  have HBX := Hid.mk' (below_chain HB1.out (new_below w1 (.cells #[.int .i64 0, .slice none 0 0] 27)))
  go_wp2_with (go_at_call 11; refine (HWE.out w1 HB1.out).mono ?_; rintro e w2 ⟨rfl, hw2⟩; rw [hw2]; clear hw2)
  refine (HEO.out _ HBX.out).mono ?_
  clear HEO HWE
  rintro e w3 ⟨hor, hb3⟩
  obtain ⟨c0, c1, q0, q1⟩ := box_past2 hb3
  have hz1 := HB1.out.size
  rcases hor with ⟨hzb, rfl⟩ | ⟨hzb, dn, v, rfl, hlb⟩
  · obtain ⟨W4, hW4⟩ : ∃ W4, W4 = (w3.setCell ⟨w1.heap.size, 0, none⟩ (.int .i64 0)).setCell ⟨w1.heap.size, 1, none⟩ (.slice none 0 0) := ⟨_, rfl⟩
    have HB4 : Hid (Below w.heap.size w W4) := by rw [hW4]; exact ((below_chain HBX.out hb3).setCell hz1 _).setCell hz1 _
    have HC4 : Hid (W4.cell? ⟨w1.heap.size, 0, none⟩ = some (.int .i64 0) ∧ W4.cell? ⟨w1.heap.size, 1, none⟩ = some (.slice none 0 0)) := by
      rw [hW4]
      exact ⟨by rw [World.cell?_setCell_other _ _ _ _ (by simp)]; exact World.cell?_setCell_same _ _ _ c0, World.cell?_setCell_same _ _ _ (by rw [World.cell?_setCell_other _ _ _ _ (by simp)]; exact c1)⟩
    have HW4 := Hid.mk' hW4
    have HZF := Hid.mk' hzb
    obtain ⟨ev, hev⟩ : ∃ ev, ev = errV a 4 := ⟨_, rfl⟩
    have HIS : Hid (∀ W, Below w.heap.size w W → Calls Tryz.prog 10 #[.agg #[.int .i64 0, .slice none 0 0], ev, .agg #[.int .i64 0, .slice none 0 0], .int .i64 4] W fun e w' => e = .returned (.bool true) ∧ Below W.heap.size W w') := fun W hb => by rw [hev]; exact isLog_bad a 4 (by decide) (by decide) 0 none 0 0 W (HE.out W hb)
    have HEN' : Hid (∀ (W : World) (v u : Value), Below w.heap.size w W → NumsAt W v n p → NumsAt W u n q → Calls Tryz.prog 13 #[v, u] W fun e w' => e = .returned (.tuple #[.agg #[.int .i64 0, .slice none 0 0], ev]) ∧ Below W.heap.size W w') := fun W v u hb hv hu => (HEN.out W v u hb hv hu).mono (fun e w' hx => by
      rcases hx with ⟨⟨_, rfl⟩ | ⟨h1, _⟩, h2⟩
      · exact ⟨by rw [hev], h2⟩
      · rw [HZF.out] at h1; cases h1)
    clear hb3 hW4 hzb hev HEN
    go_upto_region 8 with fail
    rw [← HW4.out]
    go_wp2_with (first
      | (go_at_call_of 9 cap; refine (ints_any _ n p W4 (HN.out _ HB4.out) (by omega)).mono ?_; rintro e w5 ⟨v5, rfl, hv5, hb5⟩; obtain ⟨ad5, cap5, rfl⟩ := hv5.form; have HV5 := Hid.mk' hv5; have HB5 := Hid.mk' hb5; clear hv5 hb5)
      | (go_at_call_of 9 cap'; refine (ints_any _ n q w5 (HK.out _ (below_chain HB4.out HB5.out)) (by omega)).mono ?_; rintro e w6 ⟨v6, rfl, hv6, hb6⟩; obtain ⟨ad6, cap6, rfl⟩ := hv6.form; have HV6 := Hid.mk' hv6; have HB6 := Hid.mk' hb6; clear hv6 hb6)
      | (go_at_call 13; refine (HEN'.out w6 _ _ (below_chain (below_chain HB4.out HB5.out) HB6.out) (HV5.out.later HB6.out) HV6.out).mono ?_; rintro e w7 ⟨rfl, hb7⟩; have hbY := below_chain (below_chain (below_chain HB5.out HB6.out) hb7) (new_below w7 (.cells #[.int .i64 0, .slice none 0 0] 27)); have y0 := (cell_past HC4.out.1 hbY).2; have y1 := (cell_past HC4.out.2 hbY).2; have HBY := Hid.mk' (below_chain HB4.out hbY); clear hb7 hbY)
      | (go_at_call 10; refine (HIS.out _ HBY.out).mono ?_; rintro e w8 ⟨rfl, hb8⟩; have HB8 := Hid.mk' (below_chain HBY.out hb8); clear hb8))
    go_ret
    exact ⟨rfl, HB8.out⟩
  · obtain ⟨ad3, n3, cap3, rfl⟩ := hlb.form
    obtain ⟨W4, hW4⟩ : ∃ W4, W4 = (w3.setCell ⟨w1.heap.size, 0, none⟩ (.int .i64 dn)).setCell ⟨w1.heap.size, 1, none⟩ (.slice ad3 n3 cap3) := ⟨_, rfl⟩
    have HB4 : Hid (Below w.heap.size w W4) := by rw [hW4]; exact ((below_chain HBX.out hb3).setCell hz1 _).setCell hz1 _
    have HL4 : Hid (LogBy (w1.heap.size + 1) P (fun x => sumN (divV p q P Q x) n) W4 dn (.slice ad3 n3 cap3)) := by
      rw [hW4]
      have := hlb.set (B := w1.heap.size) (by simp) (.int .i64 dn) (.slice ad3 n3 cap3)
      rw [World.size_alloc] at this
      exact this
    have HC4 : Hid (W4.cell? ⟨w1.heap.size, 0, none⟩ = some (.int .i64 dn) ∧ W4.cell? ⟨w1.heap.size, 1, none⟩ = some (.slice ad3 n3 cap3)) := by
      rw [hW4]
      exact ⟨by rw [World.cell?_setCell_other _ _ _ _ (by simp)]; exact World.cell?_setCell_same _ _ _ c0, World.cell?_setCell_same _ _ _ (by rw [World.cell?_setCell_other _ _ _ _ (by simp)]; exact c1)⟩
    have HW4 := Hid.mk' hW4
    have HZF := Hid.mk' hzb
    have HEN' : Hid (∀ (W : World) (v u : Value), Below w.heap.size w W → NumsAt W v n p → NumsAt W u n q → Calls Tryz.prog 13 #[v, u] W fun e w' => ∃ dn v, e = .returned (.tuple #[.agg #[.int .i64 dn, v], .nilIface]) ∧ LogBy W.heap.size P (fun x => sumN (divV p q P Q x) n) w' dn v ∧ Below W.heap.size W w') := fun W v u hb hv hu => (HEN.out W v u hb hv hu).mono (fun e w' hx => by
      rcases hx with ⟨⟨h1, _⟩ | ⟨_, dn, v, h3, h4⟩, h2⟩
      · rw [HZF.out] at h1; cases h1
      · exact ⟨dn, v, h3, h4, h2⟩)
    clear hlb hb3 hW4 hzb HEN
    go_upto_region 8 with fail
    rw [← HW4.out]
    go_wp2_with (first
      | (go_at_call_of 9 cap; refine (ints_any _ n p W4 (HN.out _ HB4.out) (by omega)).mono ?_; rintro e w5 ⟨v5, rfl, hv5, hb5⟩; obtain ⟨ad5, cap5, rfl⟩ := hv5.form; have HV5 := Hid.mk' hv5; have HB5 := Hid.mk' hb5; clear hv5 hb5)
      | (go_at_call_of 9 cap'; refine (ints_any _ n q w5 (HK.out _ (below_chain HB4.out HB5.out)) (by omega)).mono ?_; rintro e w6 ⟨v6, rfl, hv6, hb6⟩; obtain ⟨ad6, cap6, rfl⟩ := hv6.form; have HV6 := Hid.mk' hv6; have HB6 := Hid.mk' hb6; clear hv6 hb6)
      | (go_at_call 13; refine (HEN'.out w6 _ _ (below_chain (below_chain HB4.out HB5.out) HB6.out) (HV5.out.later HB6.out) HV6.out).mono ?_; rintro e w7 ⟨dn7, v7, rfl, hlb7, hb7⟩; obtain ⟨ad7, n7, cap7, rfl⟩ := hlb7.form; have hbY := below_chain (below_chain (below_chain HB5.out HB6.out) hb7) (new_below w7 (.cells #[.int .i64 dn7, .slice ad7 n7 cap7] 27)); have y0 := (cell_past HC4.out.1 hbY).2; have y1 := (cell_past HC4.out.2 hbY).2; have HIS := Hid.mk' (isLog_by (hlb7.later (new_below w7 (.cells #[.int .i64 dn7, .slice ad7 n7 cap7] 27))) (HL4.out.later hbY) (fun _ => rfl)); have HBY := Hid.mk' (below_chain HB4.out hbY); clear hlb7 hb7 hbY)
      | (go_at_call 10; refine HIS.out.mono ?_; rintro e w8 ⟨rfl, hb8⟩; have HB8 := Hid.mk' (below_chain HBY.out hb8); clear hb8))
    go_ret
    exact ⟨rfl, HB8.out⟩

theorem DistDivergence_all (a : Nat → Addr) (ad : Option Addr) (n cap : Nat) (p : Nat → Int) (ad' : Option Addr) (m cap' : Nat) (q : Nat → Int) (w : World) (hE : Errs w a) (h : NumsAt w (.slice ad n cap) n p) (hm : n ≤ maxLen) (k : NumsAt w (.slice ad' m cap') m q) (hm' : m ≤ maxLen) :
    Calls Tryz.prog 4 #[.slice ad n cap, .slice ad' m cap'] w fun e w' => e = .returned (.bool true) ∧ Below w.heap.size w w' := by
  by_cases hn : n ≤ 400 ∧ m ≤ 400
  · by_cases h0 : twoErr p n q m = 0
    · obtain ⟨rfl, h16, hok1, hok2⟩ := twoErr_ok h0
      have hp := hok1.posN
      obtain ⟨P, hP⟩ := Int.eq_ofNat_of_zero_le (Int.le_of_lt hok1.pos)
      obtain ⟨Q, hQ⟩ := Int.eq_ofNat_of_zero_le (Int.le_of_lt hok2.pos)
      rcases h with ⟨_, _, _, h4⟩ | ⟨b, o, c1, hv, _, hr⟩
      · omega
      rcases k with ⟨_, _, _, h4⟩ | ⟨b', o', c2, hu, _, kr⟩
      · omega
      simp only [Value.slice.injEq, true_and] at hv hu
      obtain ⟨rfl, rfl⟩ := hv
      obtain ⟨rfl, rfl⟩ := hu
      exact DistDivergence_ok a b o n cap b' o' cap' P Q p q w hE hr kr h0 hP hQ
    · exact DistDivergence_bad a ad ad' n cap m cap' p q w hE h k hn.1 hn.2 h0
  · exact DistDivergence_long a ad ad' n cap m cap' w hE hn hm hm'
end Go.Proofs.YtdhbphdgdkfhfaaGreatDoor

/- What the rows' condition on package variables gives a walk: eight different sentinels with their texts, and the handle of the type error. -/
namespace Go.Proofs.YtdhbphdgdkfhfaaGreatDoor
open Go.ChangeShapes Go.WideShapes Go.RowKit

theorem Tryz.own : ownKnob Tryz.prog.godebug = none := by kernel_rfl
theorem Tryz.et : Tryz.prog.globalNamed "errors.errorType" = some 8 := by kernel_rfl
theorem Tryz.rt : (Tryz.prog.cutTypes.find? (·.1 == "internal/reflectlite.rtype")).map (·.2) = some 121 := by kernel_rfl
theorem Tryz.oneRow : ((List.range 188).filter fun t => Tryz.prog.rowNamed t [101, 114, 114, 111, 114]) = [31] := by kernel_rfl
theorem Tryz.size : Tryz.prog.types.size = 188 := by kernel_rfl
theorem Tryz.star : ("*" ++ "errors.errorString" : String) = "*errors.errorString" := by decide
theorem Tryz.rowE (u : TypeId) (h : Tryz.prog.typeName? 3 u = some "*errors.errorString") : u = 155 :=
  typeName_ptr_named (nm := "errors.errorString") (by rw [Tryz.star]; kernel_rfl) (by kernel_rfl) (by decide) u (by rw [Tryz.star]; exact h)
theorem Tryz.cellsE : Tryz.prog.cellsOf 176 = 1 := by kernel_rfl
theorem Tryz.cellsS : Tryz.prog.cellsOf 9 = 1 := by kernel_rfl
theorem Tryz.g0 : Tryz.prog.globalNamed "demon/api.ErrText" = some 3 := by kernel_rfl
theorem Tryz.g1 : Tryz.prog.globalNamed "demon/api.ErrBound" = some 1 := by kernel_rfl
theorem Tryz.g2 : Tryz.prog.globalNamed "demon/api.ErrShape" = some 2 := by kernel_rfl
theorem Tryz.g3 : Tryz.prog.globalNamed "demon/api.ErrZero" = some 0 := by kernel_rfl
theorem Tryz.g4 : Tryz.prog.globalNamed "demon/api.ErrName" = some 4 := by kernel_rfl
theorem Tryz.g5 : Tryz.prog.globalNamed "demon/api.ErrNone" = some 5 := by kernel_rfl
theorem Tryz.g6 : Tryz.prog.globalNamed "demon/api.ErrOrder" = some 6 := by kernel_rfl
theorem Tryz.g7 : Tryz.prog.globalNamed "demon/api.ErrKind" = some 7 := by kernel_rfl

/-- Any number of listed sentinels of one type: each one's pointer, text and row; no two are one. -/
theorem laid_list {P : Program} {W : World} {nm : String} {ti tp te ts : TypeId} {ms : Array (String × TypeId)} {f : Field}
    (hi : P.underlying ti = some (.interface ms)) (hrow : ∀ u, P.typeName? 3 u = some nm → u = tp)
    (hp : P.underlying tp = some (.pointer te)) (he : P.underlying te = some (.struct #[f])) (hft : f.type = ts) (hfo : f.offset = 0) (hs : P.underlying ts = some .string) (hc : P.cellsOf te = 1) (hcs : P.cellsOf ts = 1) :
    ∀ (L : List (String × List UInt8)) (ps : List MemPlace), (∀ x, x ∈ L → ∃ g, P.globalNamed x.1 = some g ∧ (P.globals[g]?).map (·.type) = some ti) →
      DataW.LaidVars P W (L.map fun x => (x.1, .iface nm (.ptr (.agg [.lit (.string x.2)])))) ps → ps.Nodup →
      (∀ b off, MemPlace.cell b off ∈ ps → (∃ c t, W.heap[b]? = some (.cells c t (0, 0))) ∧ ∀ u v, W.cell? ⟨b, off, none⟩ = some (.iface u v) → Value.okWide P W .any 0 u v) →
      ∃ a : Nat → Addr, (∀ i x, L[i]? = some x → W.var? P x.1 = some #[.iface tp (.pointer (some (a i)))] ∧ (∃ s, W.cell? (a i) = some (.string s) ∧ s.data.toList = x.2) ∧
          (∃ c t, W.heap[(a i).block]? = some (.cells c t (0, 0))) ∧ MemPlace.cell (a i).block (a i).off ∈ ps) ∧
        ∀ i j, i < L.length → j < L.length → i ≠ j → a i ≠ a j := by
  intro L
  induction L with
  | nil => intro ps _ _ _ _; exact ⟨fun _ => default, fun i x h => by simp at h, fun i j h => by simp at h⟩
  | cons x r ih =>
    intro ps hgs hv hnd hrows
    obtain ⟨n, text⟩ := x
    obtain ⟨g0, t0, cs0, f0, p0, q0, hg0, ht0, hv0, hd0, hvr, e0⟩ := hv
    obtain ⟨g, hg, ht⟩ := hgs (n, text) (List.mem_cons_self ..)
    obtain rfl := Option.some.inj (hg.symm.trans hg0)
    obtain rfl := Option.some.inj (ht.symm.trans ht0)
    subst e0
    obtain ⟨l0⟩ := cs0
    have ok0 : ∀ u v, l0 = [.iface u v] → Value.okWide P W .any 0 u v := fun u v e => by
      subst e
      exact (hrows g 0 (by simp [MemPlace.row])).2 u v (by simpa using World.var?_cell hg0 hv0 0)
    obtain ⟨a0, s0, rfl, hc0, hs0, hz0, rfl⟩ := errorString_of_trod hi hrow hp he hft hfo hs hc hcs hd0 ok0
    obtain ⟨c0, tt0, hb0⟩ := (hrows a0.block a0.off (by simp [MemPlace.row])).1
    have hnq : q0.Nodup := List.Nodup.sublist (List.sublist_append_right _ _) hnd
    obtain ⟨a', ha', hne'⟩ := ih q0 (fun x hx => hgs x (List.mem_cons_of_mem _ hx)) hvr hnq (fun b off hm => hrows b off (List.mem_append_right _ hm))
    have hnot : MemPlace.cell a0.block a0.off ∉ q0 := by
      intro hm
      have := (List.nodup_append.1 hnd).2.2
      exact this (.cell a0.block a0.off) (by simp [MemPlace.row]) (.cell a0.block a0.off) hm rfl
    refine ⟨fun i => match i with | 0 => a0 | k + 1 => a' k, ?_, ?_⟩
    · intro i x hx
      cases i with
      | zero =>
        simp only [List.getElem?_cons_zero, Option.some.injEq] at hx
        subst hx
        exact ⟨hv0, ⟨s0, hc0, hs0⟩, ⟨c0, tt0, hb0⟩, by simp [MemPlace.row]⟩
      | succ k =>
        simp only [List.getElem?_cons_succ] at hx
        obtain ⟨h1, h2, h3, h4⟩ := ha' k x hx
        exact ⟨h1, h2, h3, List.mem_append_right _ h4⟩
    · have far : ∀ k, k < r.length → a0 ≠ a' k := fun k hk e => by
        obtain ⟨_, _, _, h4⟩ := ha' k r[k] (by simp [hk])
        rw [← e] at h4
        exact hnot h4
      intro i j hi' hj' hij
      cases i with
      | zero =>
        cases j with
        | zero => exact absurd rfl hij
        | succ k => exact far k (by simpa using hj')
      | succ m =>
        cases j with
        | zero => exact (far m (by simpa using hi')).symm
        | succ k => exact hne' m k (by simpa using hi') (by simpa using hj') (by omega)

/-- The names and texts, in the rows' order. -/
def eightNames : List (String × List UInt8) := [("demon/api.ErrText", [100, 101, 109, 111, 110, 58, 32, 116, 101, 120, 116]), ("demon/api.ErrBound", [100, 101, 109, 111, 110, 58, 32, 98, 111, 117, 110, 100]), ("demon/api.ErrShape", [100, 101, 109, 111, 110, 58, 32, 115, 104, 97, 112, 101]), ("demon/api.ErrZero", [100, 101, 109, 111, 110, 58, 32, 122, 101, 114, 111]), ("demon/api.ErrName", [100, 101, 109, 111, 110, 58, 32, 110, 97, 109, 101]), ("demon/api.ErrNone", [100, 101, 109, 111, 110, 58, 32, 110, 111, 110, 101]), ("demon/api.ErrOrder", [100, 101, 109, 111, 110, 58, 32, 111, 114, 100, 101, 114]), ("demon/api.ErrKind", [100, 101, 109, 111, 110, 58, 32, 107, 105, 110, 100])]
def laidAll : List (String × DataW Unit) := [("errors.errorType", Rows.laid_errors_errorType), ("demon/api.ErrText", Rows.laid_demon_api_ErrText), ("demon/api.ErrBound", Rows.laid_demon_api_ErrBound), ("demon/api.ErrShape", Rows.laid_demon_api_ErrShape), ("demon/api.ErrZero", Rows.laid_demon_api_ErrZero), ("demon/api.ErrName", Rows.laid_demon_api_ErrName), ("demon/api.ErrNone", Rows.laid_demon_api_ErrNone), ("demon/api.ErrOrder", Rows.laid_demon_api_ErrOrder), ("demon/api.ErrKind", Rows.laid_demon_api_ErrKind)]
theorem laidAll_parts (W : World) : laidMetH Tryz.prog laidAll W = (laidMet Tryz.prog (eightNames.map fun x => (x.1, .iface "*errors.errorString" (.ptr (.agg [.lit (.string x.2)])))) W ∧ handlesMet Tryz.prog [("errors.errorType", Rows.laid_errors_errorType)] W) := by kernel_rfl

theorem var_at {W : World} {n : String} {g : Nat} {v : Value} (hg : Tryz.prog.globalNamed n = some g) (h : W.var? Tryz.prog n = some #[v]) : W.cell? ⟨g, 0, none⟩ = some v := by
  simpa using World.var?_cell hg h 0

theorem errs_of_laid {W : World} (h : laidMetH Tryz.prog laidAll W) : ∃ a : Nat → Addr, Errs W a ∧ ∀ i x, eightNames[i]? = some x → ∃ s, W.cell? (a i) = some (.string s) ∧ s.data.toList = x.2 := by
  rw [laidAll_parts] at h
  obtain ⟨⟨ps, hv, hnd, hrows⟩, hh⟩ := h
  obtain ⟨name, u, ty, e1, e2, e3, e4, e5⟩ := hh _ (List.mem_singleton.2 rfl)
  have en : name = [101, 114, 114, 111, 114] := (Option.some.inj e1).symm
  subst en
  obtain rfl := Option.some.inj (Tryz.rt.symm.trans e2)
  have hm : ty ∈ (List.range 188).filter fun t => Tryz.prog.rowNamed t [101, 114, 114, 111, 114] := List.mem_filter.2 ⟨List.mem_range.2 (by rw [← Tryz.size]; exact e3), e4⟩
  rw [Tryz.oneRow] at hm
  obtain rfl := List.mem_singleton.1 hm
  have hth : typeHandle Tryz.prog 31 = .pointer (some ⟨9, 31, none⟩) := by kernel_rfl
  rw [hth] at e5
  obtain ⟨a, ha, hne⟩ := laid_list Tryz.underlying31 Tryz.rowE Tryz.underlying155 Tryz.underlying176 rfl rfl Tryz.underlying9 Tryz.cellsE Tryz.cellsS eightNames ps
    (fun x hx => by
      simp only [eightNames, List.mem_cons, List.not_mem_nil, or_false] at hx
      rcases hx with rfl | rfl | rfl | rfl | rfl | rfl | rfl | rfl
      · exact ⟨_, Tryz.g0, by kernel_rfl⟩
      · exact ⟨_, Tryz.g1, by kernel_rfl⟩
      · exact ⟨_, Tryz.g2, by kernel_rfl⟩
      · exact ⟨_, Tryz.g3, by kernel_rfl⟩
      · exact ⟨_, Tryz.g4, by kernel_rfl⟩
      · exact ⟨_, Tryz.g5, by kernel_rfl⟩
      · exact ⟨_, Tryz.g6, by kernel_rfl⟩
      · exact ⟨_, Tryz.g7, by kernel_rfl⟩) hv hnd hrows
  refine ⟨a, ⟨var_at Tryz.g0 (ha 0 _ rfl).1, var_at Tryz.g1 (ha 1 _ rfl).1, var_at Tryz.g2 (ha 2 _ rfl).1, var_at Tryz.g3 (ha 3 _ rfl).1, var_at Tryz.g4 (ha 4 _ rfl).1, var_at Tryz.g5 (ha 5 _ rfl).1, var_at Tryz.g6 (ha 6 _ rfl).1, var_at Tryz.g7 (ha 7 _ rfl).1, var_at Tryz.et e5, ?_, ?_⟩, fun i x hx => (ha i x hx).2.1⟩
  · intro i hi
    have hl : eightNames.length = 8 := rfl
    exact (ha i eightNames[i] (List.getElem?_eq_getElem (by omega))).2.2.1
  · intro i j hi hj hij
    exact hne i j hi hj hij

/-- The door's own heap meets the condition. -/
theorem door_met (os : Os) (args : Array Value) : laidMetH Tryz.prog laidAll ((World.doorLaid Tryz.prog 168 os).forCall (fun _ _ => 0) ⟨#[], args, []⟩).memory :=
  laidMetH_of_parts3 (fuel := 8) (laidMet_of_run' 8 (by kernel_rfl) (by kernel_rfl)) (by kernel_rfl) (by kernel_rfl)
end Go.Proofs.YtdhbphdgdkfhfaaGreatDoor

/- A parameter of type []int opened. -/
namespace Go.Proofs.YtdhbphdgdkfhfaaGreatDoor
open Go.ChangeShapes Go.WideShapes Go.ChangeAt Go.RowKit Go.Joins Go.Deep

theorem Tryz.laidOut : laidOutB Tryz.prog = true := by kernel_rfl
theorem Tryz.cellsInt : Tryz.prog.cellsOf 3 = 1 := by kernel_rfl
theorem Tryz.cellsInts : Tryz.prog.cellsOf 22 = 1 := by kernel_rfl

set_option maxRecDepth 100000 in
/-- What a parameter of type []int gives: its slice, its numbers. -/
theorem open_nums {H : Type} {enc : TypeId × Value → H} {W : World} {base : Nat} {v : Value} {d : DataW H} {p : List MemPlace} (hv : Value.okWide Tryz.prog W .any base 22 v)
    (h : DataW.Trod enc Tryz.prog W 0 (fun _ => true) true 22 v d p) :
    ∃ (ad : Option Addr) (n cap : Nat) (z : Nat → Int), v = .slice ad n cap ∧ n ≤ maxLen ∧ NumsAt W (.slice ad n cap) n z := by
  obtain ⟨ad, n, cap, rfl⟩ := okWide_slice Tryz.underlying22 hv
  obtain ⟨fuel, hf⟩ := h
  rcases open_ints Tryz.underlying22 Tryz.underlying3 Tryz.cellsInt hf with ⟨hc, _⟩ | ⟨a, len, cap', zs, hc, _, hl, hm, hz, _, hcell, _⟩
  · simp [Value.cells] at hc
    obtain ⟨rfl, rfl, rfl⟩ := hc
    exact ⟨none, 0, 0, fun _ => 0, rfl, Nat.zero_le _, Or.inl ⟨none, 0, rfl, rfl⟩⟩
  · simp [Value.cells] at hc
    obtain ⟨rfl, rfl, rfl⟩ := hc
    simp only [if_true] at hz
    rcases Nat.eq_zero_or_pos n with rfl | hpos
    · exact ⟨some a, 0, cap, fun _ => 0, rfl, Nat.zero_le _, Or.inl ⟨some a, cap, rfl, rfl⟩⟩
    · obtain ⟨b, o, spot⟩ := a
      have hspot : spot = none := by simpa [Addr.add] using World.cell?_spot (hcell 0 (by omega))
      subst hspot
      refine ⟨_, n, cap, fun i => zs.getD i 0, rfl, by omega, Or.inr ⟨b, o, cap, rfl, hpos, fun i hi => ?_⟩⟩
      have := hcell i (by omega)
      rw [Go.Proofs.YtdhbphdgdkfhfaaGreatDoor.add_plain] at this
      exact this
end Go.Proofs.YtdhbphdgdkfhfaaGreatDoor
