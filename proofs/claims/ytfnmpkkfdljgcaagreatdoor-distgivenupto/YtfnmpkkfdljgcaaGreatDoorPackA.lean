/- The document's Entropy of a Wide, and EntropyOf. -/
import Derived.Test.YtfnmpkkfdljgcaaGreatDoorMinus
import Derived.Test.YtfnmpkkfdljgcaaGreatDoorWLog
import Derived.Test.YtfnmpkkfdljgcaaGreatDoorWTold
import Derived.Test.YtfnmpkkfdljgcaaGreatDoorPutEnt
import Derived.Deep.RegionLaw
import Derived.Test.YtfnmpkkfdljgcaaGreatDoorOfAny
import Derived.Test.YtfnmpkkfdljgcaaGreatDoorCode
import Derived.Test.YtfnmpkkfdljgcaaGreatDoorValidWalk
import Derived.Test.YtfnmpkkfdljgcaaGreatDoorPutT
import Derived.Deep.CutRange
import Derived.Test.YtfnmpkkfdljgcaaGreatDoorTold
namespace Go.Proofs.YtfnmpkkfdljgcaaGreatDoor
open Go.RowKit

/-- A Wide to which f came, in at most c calls. -/
structure WPuts (base M B : Nat) (W0 wr : World) (f : Int → Int) (c : Nat) (L0 : List Ent) (vp vc : Value) (L : List Ent) : Prop where
  wide : WideAt base M wr B vp vc L
  rise : Rising (absL L)
  val : ∀ x, atL (absL L) x = atL (absL L0) x + f x
  len : L.length ≤ L0.length + 20 * c
  kept : IntsKept W0 wr
  moved : Moved B W0 wr
  below : Below base W0 wr
theorem WPuts.trans {base M B : Nat} {W0 W1 W2 : World} {f g : Int → Int} {c d : Nat} {L0 L1 L2 : List Ent} {vp vc vp' vc' : Value} (h : WPuts base M B W0 W1 f c L0 vp vc L1) (k : WPuts base M B W1 W2 g d L1 vp' vc' L2) : WPuts base M B W0 W2 (fun x => f x + g x) (c + d) L0 vp' vc' L2 :=
  ⟨k.wide, k.rise, fun x => by rw [k.val, h.val]; omega, by have := h.len; have := k.len; omega, h.kept.trans k.kept, h.moved.trans k.moved, h.below.trans k.below⟩
theorem WPuts.congr {base M B : Nat} {W0 W1 : World} {f g : Int → Int} {c d : Nat} {L0 L1 : List Ent} {vp vc : Value} (h : WPuts base M B W0 W1 f c L0 vp vc L1) (hc : c ≤ d) (he : ∀ x, f x = g x) : WPuts base M B W0 W1 g d L0 vp vc L1 :=
  ⟨h.wide, h.rise, fun x => by rw [h.val, he], by have := h.len; omega, h.kept, h.moved, h.below⟩
theorem WPuts.later {base M B : Nat} {W0 W1 W2 : World} {f : Int → Int} {c : Nat} {L0 L1 : List Ent} {vp vc : Value} (h : WPuts base M B W0 W1 f c L0 vp vc L1) (hb : Below W1.heap.size W1 W2) : WPuts base M B W0 W2 f c L0 vp vc L1 :=
  ⟨h.wide.later hb, h.rise, h.val, h.len, h.kept.trans (IntsKept.of_below hb), h.moved.trans (Moved.of_below hb h.wide.lt), h.below.trans (hb.mono (by have := h.wide.hB; have := h.wide.lt; omega))⟩
theorem WPuts.start {base M B : Nat} {W0 : World} {L : List Ent} {vp vc : Value} (h : WideAt base M W0 B vp vc L) (hr : Rising (absL L)) {f : Int → Int} (hf : ∀ x, f x = 0) (c : Nat) : WPuts base M B W0 W0 f c L vp vc L :=
  ⟨h, hr, fun x => by rw [hf]; omega, by omega, IntsKept.refl _, Moved.refl _ _, Below.refl _ _⟩
/-- Number, in these words. -/
theorem Number_by (base M B n0 : Nat) (z : Int) (cv vp vc : Value) (L : List Ent) (w : World) (hW : WideAt base M w B vp vc L) (hc : RatioAt w cv (lowN M z) (lowD M z)) (hM : 0 < M) (hM6 : M ≤ 4096) (hr : Rising (absL L)) (hlen : L.length ≤ 90000) (hn1 : 1 ≤ n0) (hn6 : n0 ≤ 1000000) (hb : ∀ x, -1000000000000000 ≤ atL (absL L) x ∧ atL (absL L) x ≤ 1000000000000000) (hz : -1000000 ≤ z ∧ z ≤ 1000000) :
    Calls Tryz.prog 37 #[.pointer (some ⟨B, 0, none⟩), .int .i64 n0, cv] w fun e w' => e = .returned (.tuple #[]) ∧ ∃ vp' vc' L', WPuts base M B w w' (fun x => z * multI x n0) 1 L vp' vc' L' := by
  have p3 : (1000000 : Nat) ^ 3 = 1000000000000000000 := by decide
  refine (Number_any base M B n0 z cv vp vc L 3 w hW hc hM hr hlen hn1 hn6 (fun x => by rw [p3]; have := hb x; omega) (by rw [p3]; omega) (by decide)).mono ?_
  rintro e w' ⟨rfl, vp', vc', L', k, h⟩
  have hk := h.cnt_le (by decide) hn6
  refine ⟨rfl, vp', vc', L', h.wide, h.rise, fun x => ?_, by have := h.len; omega, h.kept, h.moved, h.below⟩
  have := h.val x
  rw [multI_one, Int.mul_zero, Int.add_zero] at this
  exact this

/-- A fraction in a box. -/
structure RBox (W0 W : World) (B : Nat) (n : Int) (d : Nat) : Prop where
  below : Below W0.heap.size W0 W
  hB : W0.heap.size ≤ B
  box : ∃ s ad l cap ad' l' cap', W.cell? ⟨B, 0, none⟩ = some (.bool s) ∧ W.cell? ⟨B, 1, none⟩ = some (.slice ad l cap) ∧ W.cell? ⟨B, 2, none⟩ = some (.slice ad' l' cap') ∧ RatioAt W (.agg #[.bool s, .slice ad l cap, .slice ad' l' cap']) n d
theorem rBox_late {W0 W : World} {n : Int} {d : Nat} {s : Bool} {ad ad' : Option Addr} {l cap l' cap' : Nat} (h : Below W0.heap.size W0 W) (hr : RatioAt W (.agg #[.bool s, .slice ad l cap, .slice ad' l' cap']) n d) : RBox W0 (W.alloc (.cells #[.bool s, .slice ad l cap, .slice ad' l' cap'] 54)) W.heap.size n d :=
  ⟨more_below h _, h.size, s, ad, l, cap, ad', l', cap', by simp, by simp, by simp, hr.later (new_below _ _)⟩
theorem rBox_soon {W0 W : World} {B : Nat} {n : Int} {d : Nat} {s : Bool} {ad ad' : Option Addr} {l cap l' cap' : Nat} (h : Below W0.heap.size W0 W) (hr : RatioAt W (.agg #[.bool s, .slice ad l cap, .slice ad' l' cap']) n d) (hn : NewBox3 W0 W B) : RBox W0 (((W.setCell ⟨B, 0, none⟩ (.bool s)).setCell ⟨B, 1, none⟩ (.slice ad l cap)).setCell ⟨B, 2, none⟩ (.slice ad' l' cap')) B n d := by
  refine ⟨below_set3 h hn.hB _ _ _, hn.hB, s, ad, l, cap, ad', l', cap', ?_, ?_, ?_, ?_⟩
  · rw [World.cell?_setCell_other _ _ _ _ (by simp), World.cell?_setCell_other _ _ _ _ (by simp)]; exact World.cell?_setCell_same _ _ _ hn.c0
  · rw [World.cell?_setCell_other _ _ _ _ (by simp)]; exact World.cell?_setCell_same _ _ _ (by rw [World.cell?_setCell_other _ _ _ _ (by simp)]; exact hn.c1)
  · exact World.cell?_setCell_same _ _ _ (by rw [World.cell?_setCell_other _ _ _ _ (by simp), World.cell?_setCell_other _ _ _ _ (by simp)]; exact hn.c2)
  · obtain ⟨u, q, hv, hu, hq⟩ := hr
    have hv' := hv
    simp only [Value.agg.injEq, Array.mk.injEq, List.cons.injEq, and_true] at hv'
    obtain ⟨_, rfl, rfl⟩ := hv'
    exact ⟨_, _, hv, hu.set3 hn.no hn.c0 hn.c1, hq.set3 hn.no hn.c0 hn.c1⟩
theorem RatioOf_low (x : Int) (n : Nat) (w : World) (h0 : -1000000 ≤ x ∧ x ≤ 1000000) (hd : 0 < n) (hd1 : n ≤ 1000000) :
    Calls Tryz.prog 22 #[.int .i64 x, .int .i64 n] w fun e w' => ∃ r, e = .returned r ∧ RatioAt w' r (lowN n x) (lowD n x) ∧ Below w.heap.size w w' := RatioOf_any x n w (by omega) (by omega) hd (by omega)
theorem low_lt {M : Nat} (hM : 0 < M) {z : Int} (hM6 : M ≤ 4096) (hz : -1000000 ≤ z ∧ z ≤ 1000000) : (lowN M z).natAbs < 1000000 ^ 3 ∧ lowD M z < 1000000 ^ 3 := by
  have p3 : (1000000 : Nat) ^ 3 = 1000000000000000000 := by decide
  have h1 := lowN_le hM z
  have h2 := lowD_le M z
  rw [p3]
  omega
/-- A chance of a chance. -/
theorem Times_low (M n : Nat) (x : Int) (c r : Value) (w : World) (hc : RatioAt w c (lowN M n) (lowD M n)) (hr : RatioAt w r (lowN n x) (lowD n x)) (hM : 0 < M) (hM6 : M ≤ 4096) (hn : 0 < n) (hn6 : n ≤ 4096) (hx : -1000000 ≤ x ∧ x ≤ 1000000) :
    Calls Tryz.prog 43 #[c, r] w fun e w' => ∃ r', e = .returned r' ∧ RatioAt w' r' (lowN M x) (lowD M x) ∧ Below w.heap.size w w' := by
  have l1 := low_lt hM (z := (n : Int)) hM6 (by omega)
  have l2 := low_lt hn (z := x) hn6 hx
  have h := Times_ratio c r _ _ _ _ 3 w hc hr (lowD_pos hM _) (lowD_pos hn _) l1.1 l2.1 l1.2 l2.2 (by decide)
  have e := low_times hM hn x
  rw [e.1, e.2] at h
  exact h
/-- What is less than nothing. -/
theorem Minus_low (M : Nat) (x : Int) (o r : Value) (w : World) (ho : RatioAt w o (lowN 1 0) (lowD 1 0)) (hr : RatioAt w r (lowN M x) (lowD M x)) (hM : 0 < M) (hM6 : M ≤ 4096) (hx : -1000000 ≤ x ∧ x ≤ 1000000) :
    Calls Tryz.prog 36 #[o, r] w fun e w' => ∃ r', e = .returned r' ∧ RatioAt w' r' (lowN M (-x)) (lowD M (-x)) ∧ Below w.heap.size w w' := by
  have l2 := low_lt hM (z := x) hM6 hx
  have l1 := low_lt (M := 1) (by decide) (z := 0) (by decide) (by omega)
  rw [(low_one 0).1, (low_one 0).2] at ho l1
  have h := Minus_ratio o r 0 _ 1 _ 3 w ho hr (by decide) (lowD_pos hM _) l1.1 l2.1 l1.2 l2.2 (by decide)
  have e := low_minus hM x
  rw [e.1, e.2] at h
  exact h
end Go.Proofs.YtfnmpkkfdljgcaaGreatDoor

/- The document's Entropy of a Wide. -/
namespace Go.Proofs.YtfnmpkkfdljgcaaGreatDoor
open Go.RowKit

theorem RowAt.kept {w w' : World} {b o n : Nat} {z : Nat → Int} (h : RowAt w b o n z) (hk : IntsKept w w') : RowAt w' b o n z := fun i hi => hk _ _ (h i hi)

set_option maxRecDepth 100000 in
set_option maxHeartbeats 4000000 in
theorem WEntropy_some (base M B b o cap n N : Nat) (z : Nat → Int) (cv vp vc : Value) (L : List Ent) (w : World) (hW : WideAt base M w B vp vc L) (hc : RatioAt w cv (lowN M N) (lowD M N)) (hM : 0 < M) (hM6 : M ≤ 4096) (hr : Rising (absL L)) (hlen : L.length ≤ 40000)
    (hbd : ∀ x, -100000000000000 ≤ atL (absL L) x ∧ atL (absL L) x ≤ 100000000000000) (h : RowAt w b o n z) (hz : ∀ i, i < n → 0 ≤ z i) (hN : sumN z n = N) (hN1 : 1 ≤ N) (hN6 : N ≤ 4096) (hn : n ≤ 256) :
    Calls Tryz.prog 21 #[.pointer (some ⟨B, 0, none⟩), .slice (some ⟨b, o, none⟩) n cap, cv] w fun e w' => e = .returned (.tuple #[]) ∧ ∃ vp' vc' L', WPuts base M B w w' (fun x => sumN (entV z N x) n) (2 * n) L vp' vc' L' := by
  obtain ⟨s, ad, l, ca, ad', l', ca', rfl⟩ := hc.parts
  have hzi : ∀ i, i < n → 0 ≤ z i ∧ z i ≤ 4096 := fun i hi => ⟨hz i hi, by have := sumN_ge hz hi; omega⟩
  have hle : ∀ k, k ≤ n → 0 ≤ sumN z k ∧ sumN z k ≤ 4096 := fun k hk => ⟨sumN_nonneg (fun i hi => hz i (by omega)), by have := sumN_mono hz hk; omega⟩
  obtain ⟨W0, hW0⟩ : ∃ W0, W0 = w.alloc (.cells #[.bool s, .slice ad l ca, .slice ad' l' ca'] 54) := ⟨_, rfl⟩
  have hb0 : Below w.heap.size w W0 := by rw [hW0]; exact new_below _ _
  have hnm0 := hW.not_mine' hb0 (Nat.le_refl _)
  have HC : Hid (∀ wr, Moved B W0 wr → wr.cell? ⟨w.heap.size, 0, none⟩ = some (.bool s) ∧ wr.cell? ⟨w.heap.size, 1, none⟩ = some (.slice ad l ca) ∧ wr.cell? ⟨w.heap.size, 2, none⟩ = some (.slice ad' l' ca')) := fun wr hm => by
    have hlt : w.heap.size < W0.heap.size := by rw [hW0]; simp
    refine ⟨?_, ?_, ?_⟩
    · rw [hm.cell hlt hnm0, hW0]; simp
    · rw [hm.cell hlt hnm0, hW0]; simp
    · rw [hm.cell hlt hnm0, hW0]; simp
  have HI0 : Hid (WPuts base M B w W0 (fun x => sumN (entV z N x) 0) (2 * 0) L vp vc L) := (WPuts.start hW hr (fun x => rfl) 0).later hb0
  have HM0 : Hid (Moved B W0 W0) := Moved.refl _ _
  have hS := Sum_some b o cap n z W0 (h.later hb0) (fun k hk => by have := hle k hk; omega) (fun i hi => by have := hzi i hi; omega) (by omega)
  rw [hN] at hS
  have HR := Hid.mk' h
  have HRA := Hid.mk' hc
  have HW0 := Hid.mk' hW0
  have HZI := Hid.mk' hzi
  have HBD := Hid.mk' hbd
  clear hW hc hr hbd h hz hzi hle hN hW0 hb0 hnm0
  go_enter Tryz.func21, Tryz.ntmps21
  go_upto_region 1 with fail
  rw [← HW0.out]
  go_wp2_with (go_at_call 32; refine hS.mono ?_; rintro e w1 ⟨rfl, hw1⟩; rw [hw1]; clear hw1)
  go_loopw [7, 8] (fun t _ wr => ∃ (k : Nat) (vp1 vc1 : Value) (L1 : List Ent), k ≤ n ∧ t = .int .i64 k ∧ Hid (WPuts base M B w wr (fun x => sumN (entV z N x) k) (2 * k) L vp1 vc1 L1) ∧ Hid (Moved B W0 wr)) (fun t _ _ => n - (intOf t).toNat)
  case atStart => exact ⟨0, vp, vc, L, by omega, rfl, HI0, HM0⟩
  case round =>
    clear HI0 HM0 hS
    obtain ⟨k, vp1, vc1, L1, hk, rfl, HI, HMV⟩ := hrel
    rcases Nat.lt_or_ge k n with h1 | h1
    · have hcell := HR.out.kept HI.out.kept k h1
      have hkn : (k : Int) < (n : Int) := by omega
      have hzk := HZI.out k h1
      have HV : Hid (∀ x, sumN (entV z N x) (k + 1) = sumN (entV z N x) k + (z k * multI x N + -(z k) * multI x (z k).toNat)) := fun x => by
        show sumN (entV z N x) k + entV z N x k = _
        unfold entV
        rw [Int.neg_mul]; omega
      have HB1 : Hid (∀ x, -100000100000000 ≤ atL (absL L1) x ∧ atL (absL L1) x ≤ 100000100000000) := fun x => by
        rw [HI.out.val]
        have h2 := HBD.out x
        have h3 := sumN_bound (f := entV z N x) (B := 200000) (n := k) (fun i hi => entV_le x (HZI.out i (by omega)) hN6)
        have : (k : Int) * 200000 ≤ 51200000 := by omega
        omega
      have hlen1 : L1.length ≤ 60000 := by have := HI.out.len; omega
      obtain ⟨y, hy⟩ := Int.eq_ofNat_of_zero_le hzk.1
      rw [hy] at hcell hzk HV
      simp only [Int.toNat_natCast] at HV
      have hy6 : y ≤ 4096 := by have := hzk.2; omega
      clear hy hzk
      by_cases hy0 : y = 0
      · subst hy0
        have HV0 : Hid (∀ x, sumN (entV z N x) k = sumN (entV z N x) (k + 1)) := fun x => by rw [HV.out x]; simp
        clear HV
        go_wp2_with fail
        exact ⟨⟨k + 1, vp1, vc1, L1, h1, by go_num, HI.out.congr (by omega) HV0.out, HMV⟩, by simp [intOf]; omega⟩
      · have hyI : ¬ (y : Int) = 0 := by omega
        have hyb : ((y : Int) == 0) = false := by simpa using hy0
        obtain ⟨c0, c1, c2⟩ := HC.out wr HMV.out
        have hBw := HI.out.wide.lt
        have HKS : Hid (∀ W, Below wr.heap.size wr W → (W.cell? ⟨w.heap.size, 0, none⟩ = some (.bool s) ∧ W.cell? ⟨w.heap.size, 1, none⟩ = some (.slice ad l ca) ∧ W.cell? ⟨w.heap.size, 2, none⟩ = some (.slice ad' l' ca')) ∧ W.cell? ⟨b, o + k, none⟩ = some (.int .i64 (y : Int))) := fun W hb => ⟨HC.out W (HMV.out.trans (Moved.of_below hb hBw)), (cell_past hcell hb).2⟩
        have HTI : Hid (∀ (W : World) (r : Value), Below wr.heap.size wr W → RatioAt W r (lowN N y) (lowD N y) → Calls Tryz.prog 43 #[.agg #[.bool s, .slice ad l ca, .slice ad' l' ca'], r] W fun e w' => ∃ r', e = .returned r' ∧ RatioAt w' r' (lowN M y) (lowD M y) ∧ Below W.heap.size W w') := fun W r hb hr' =>
          Times_low M N y _ r W (HRA.out.kept (HI.out.kept.trans (IntsKept.of_below hb))) hr' hM hM6 hN1 hN6 (by omega)
        have HRO : Hid (∀ W, Calls Tryz.prog 22 #[.int .i64 (y : Int), .int .i64 N] W fun e w' => ∃ r, e = .returned r ∧ RatioAt w' r (lowN N y) (lowD N y) ∧ Below W.heap.size W w') := fun W => RatioOf_low y N W (by omega) hN1 (by omega)
        have hcur0 : Below wr.heap.size wr wr := Below.refl _ _
        have hcur : Below wr.heap.size wr wr.drew := (Below.refl _ _).drew
        have hcurA : ∀ X, Below wr.heap.size wr (wr.alloc X).drew := fun X => (new_below _ _).drew
        go_upto_region 6 with fail
        clear c0 c1 c2 hcell
        go_cut [8] from 22 to 42 (fun s' wx => ∃ Bs : Nat, s' = .pointer (some ⟨Bs, 0, none⟩) ∧ Hid (RBox wr wx Bs (lowN M y) (lowD M y)))
        case first =>
          go_region_held3 (fun W => (W.cell? ⟨w.heap.size, 0, none⟩ = some (.bool s) ∧ W.cell? ⟨w.heap.size, 1, none⟩ = some (.slice ad l ca) ∧ W.cell? ⟨w.heap.size, 2, none⟩ = some (.slice ad' l' ca')) ∧ W.cell? ⟨b, o + k, none⟩ = some (.int .i64 (y : Int)))
            (first | exact HKS.out _ hcur0 | exact HKS.out _ hcur | exact HKS.out _ (hcurA _) | (refine HKS.out _ ?_; assumption) | (refine HKS.out _ (more_below ?_ _); assumption) | (refine HKS.out _ (below_set3 ?_ NB.hB _ _ _); assumption))
            (first
              | (go_at_call 43; refine (HTI.out _ _ ?_ (HX1.out _ ?_)).mono ?_; (first | exact hbw1 | exact more_below hbw1 _); (first | exact Below.refl _ _ | exact new_below _ _); rintro e w7 ⟨rv, rfl, hrv, hb7⟩; obtain ⟨sg, ad8, l8, cap8, ad9, l9, cap9, rfl⟩ := hrv.parts; (first | (have hbw7 := below_chain hbw1 hb7; try have NB := NB.later hb7) | (have hbw7 := below_chain (more_below hbw1 _) hb7; have NB := newBox3_of hbw1 hb7)); (try (have y0 := NB.c0; have y1 := NB.c1; have y2 := NB.c2; have y3 := NB.f0; have y4 := NB.f1; have y5 := NB.f2)); have HRV := Hid.mk' hrv; clear hrv hb7)
              | (go_at_call 22; refine (HRO.out _).mono ?_; rintro e w5 ⟨r5, rfl, hr5, hb5⟩; obtain ⟨sg5, ad5, l5, cap5, ad6, l6, cap6, rfl⟩ := hr5.parts; (first | have hbw1 := below_chain hcur hb5 | (have hbw1 := below_chain (hcurA _) hb5; have NB := newBox3_of hcur0 (below_chain ((Below.refl _ _).drew) hb5))); have HX1 : Hid (∀ W, Below w5.heap.size w5 W → RatioAt W (.agg #[.bool sg5, .slice ad5 l5 cap5, .slice ad6 l6 cap6]) (lowN N y) (lowD N y)) := (fun W hb => hr5.later hb); clear hr5 hb5))
          all_goals
            go_wp2_with fail
            go_meet
            first | exact ⟨_, rfl, rBox_late hbw7 HRV.out⟩ | exact ⟨_, rfl, rBox_soon hbw7 HRV.out NB⟩
        case rest =>
        obtain ⟨Bs, rfl, HRB⟩ := hcut
        obtain ⟨Wc, hWc⟩ : ∃ Wc, Wc = wc := ⟨_, rfl⟩
        rw [← hWc] at HRB ⊢
        clear hWc hcur0 hcur hcurA HTI HRO
        obtain ⟨sg, ad8, l8, cap8, ad9, l9, cap9, x0, x1, x2, hrat⟩ := HRB.out.box
        have HIc := Hid.mk' (HI.out.later HRB.out.below)
        have HNM : Hid (¬ Mine B Wc Bs) := HI.out.wide.not_mine' HRB.out.below HRB.out.hB
        have hnum := Number_by base M B N (y : Int) _ vp1 vc1 L1 Wc HIc.out.wide hrat hM hM6 HIc.out.rise (by omega) hN1 (by omega) (fun x => by have := HB1.out x; omega) (by omega)
        have HX0 := Hid.mk' (And.intro x0 (And.intro x1 x2))
        have HRT := Hid.mk' hrat
        have HCE := Hid.mk' (HKS.out Wc HRB.out.below).2
        have HBL : Hid (Bs < Wc.heap.size) := cell_lt x0
        clear hrat
        go_wp2_with fail
        refine hnum.mono ?_
        clear hnum x0 x1 x2
        rintro e w2 ⟨rfl, vp2, vc2, L2, hwp2⟩
        have HK2 : Hid (∀ W, IntsKept w2 W → Moved B w2 W → (W.cell? ⟨Bs, 0, none⟩ = some (.bool sg) ∧ W.cell? ⟨Bs, 1, none⟩ = some (.slice ad8 l8 cap8) ∧ W.cell? ⟨Bs, 2, none⟩ = some (.slice ad9 l9 cap9)) ∧ W.cell? ⟨b, o + k, none⟩ = some (.int .i64 (y : Int))) := fun W hk' hm' => by
          have hm := hwp2.moved.trans hm'
          refine ⟨⟨?_, ?_, ?_⟩, hk' _ _ (hwp2.kept _ _ HCE.out)⟩
          · rw [hm.cell HBL.out HNM.out]; exact HX0.out.1
          · rw [hm.cell HBL.out HNM.out]; exact HX0.out.2.1
          · rw [hm.cell HBL.out HNM.out]; exact HX0.out.2.2
        have hBw2 := hwp2.wide.lt
        have HKS2 : Hid (∀ W, Below w2.heap.size w2 W → (W.cell? ⟨Bs, 0, none⟩ = some (.bool sg) ∧ W.cell? ⟨Bs, 1, none⟩ = some (.slice ad8 l8 cap8) ∧ W.cell? ⟨Bs, 2, none⟩ = some (.slice ad9 l9 cap9)) ∧ W.cell? ⟨b, o + k, none⟩ = some (.int .i64 (y : Int))) := fun W hb => HK2.out W (IntsKept.of_below hb) (Moved.of_below hb hBw2)
        have HRZ : Hid (∀ W, Calls Tryz.prog 22 #[.int .i64 0, .int .i64 1] W fun e w' => ∃ r, e = .returned r ∧ RatioAt w' r (lowN 1 0) (lowD 1 0) ∧ Below W.heap.size W w') := fun W => RatioOf_low 0 1 W (by omega) (by omega) (by omega)
        have HMI : Hid (∀ (W : World) (r : Value), Below w2.heap.size w2 W → RatioAt W r (lowN 1 0) (lowD 1 0) → Calls Tryz.prog 36 #[r, .agg #[.bool sg, .slice ad8 l8 cap8, .slice ad9 l9 cap9]] W fun e w' => ∃ r', e = .returned r' ∧ RatioAt w' r' (lowN M (-(y : Int))) (lowD M (-(y : Int))) ∧ Below W.heap.size W w') := fun W r hb hr' =>
          Minus_low M y r _ W hr' (HRT.out.kept (hwp2.kept.trans (IntsKept.of_below hb))) hM hM6 (by omega)
        have hl2 : L2.length ≤ 60020 := by have := hwp2.len; omega
        have HNU : Hid (∀ (W : World) (r : Value), Below w2.heap.size w2 W → RatioAt W r (lowN M (-(y : Int))) (lowD M (-(y : Int))) → Calls Tryz.prog 37 #[.pointer (some ⟨B, 0, none⟩), .int .i64 (y : Int), r] W fun e w' => e = .returned (.tuple #[]) ∧ (∃ vp' vc' L', WPuts base M B w w' (fun x => sumN (entV z N x) (k + 1)) (2 * (k + 1)) L vp' vc' L') ∧ IntsKept w2 w' ∧ Moved B w2 w') := fun W r hb hr' => by
          have hw' := hwp2.later hb
          refine (Number_by base M B y (-(y : Int)) r vp2 vc2 L2 W hw'.wide hr' hM hM6 hw'.rise (by omega) (by omega) (by omega) (fun x => by rw [hw'.val]; have h2 := HB1.out x; have h3 := mul_weight (t := (y : Int)) (by omega) (multI_small x (n := N) (by omega)); omega) (by omega)).mono ?_
          rintro e w' ⟨rfl, vp', vc', L', hq⟩
          exact ⟨rfl, ⟨vp', vc', L', ((HIc.out.trans hw').trans hq).congr (by omega) (fun x => by rw [HV.out x]; omega)⟩, (IntsKept.of_below hb).trans hq.kept, (Moved.of_below hb hBw2).trans hq.moved⟩
        have HMB : Hid (Moved B W0 w2) := (HMV.out.trans (Moved.of_below HRB.out.below hBw)).trans hwp2.moved
        have hcur0 : Below w2.heap.size w2 w2 := Below.refl _ _
        have hcur : Below w2.heap.size w2 w2.drew := (Below.refl _ _).drew
        clear hwp2 HIc HX0 HRT HCE HKS HRB HI HV
        go_upto_region 8 with fail
        go_region_held3 (fun W => (W.cell? ⟨Bs, 0, none⟩ = some (.bool sg) ∧ W.cell? ⟨Bs, 1, none⟩ = some (.slice ad8 l8 cap8) ∧ W.cell? ⟨Bs, 2, none⟩ = some (.slice ad9 l9 cap9)) ∧ W.cell? ⟨b, o + k, none⟩ = some (.int .i64 (y : Int)))
          (first | exact HKS2.out _ hcur0 | exact HKS2.out _ hcur | exact HKS2.out _ hbw3 | exact HKS2.out _ hbw4 | exact HS5.out)
          (first
            | (go_at_call 37; refine (HNU.out _ _ hbw4 HR4.out).mono ?_; rintro e w5 ⟨rfl, ⟨vp5, vc5, L5, hq5⟩, hk5, hm5⟩; have HQ5 := Hid.mk' hq5; have HM5 := Hid.mk' hm5; have HS5 := Hid.mk' (HK2.out w5 hk5 hm5); clear hq5 hk5 hm5)
            | (go_at_call 36; refine (HMI.out _ _ hbw3 HR3.out).mono ?_; rintro e w4 ⟨r4, rfl, hr4, hb4⟩; have hbw4 := below_chain hbw3 hb4; have HR4 := Hid.mk' hr4; clear hr4 hb4)
            | (go_at_call 22; refine (HRZ.out _).mono ?_; rintro e w3 ⟨r3, rfl, hr3, hb3⟩; have hbw3 := below_chain hcur hb3; have HR3 := Hid.mk' hr3; clear hr3 hb3))
        all_goals
          go_wp2_with fail
          exact ⟨⟨k + 1, vp5, vc5, L5, h1, by go_num, HQ5, HMB.out.trans HM5.out⟩, by simp [intOf]; omega⟩
    · obtain rfl : k = n := by omega
      go_wp2_with fail
      go_end0
      exact ⟨rfl, vp1, vc1, L1, HI.out⟩
end Go.Proofs.YtfnmpkkfdljgcaaGreatDoor

/- (*Wide).Told, walked. -/
namespace Go.Proofs.YtfnmpkkfdljgcaaGreatDoor
open Go.RowKit

theorem nat_not_neg (n : Nat) : ¬ ((n : Int) < 0) := by omega

set_option maxRecDepth 100000 in
set_option maxHeartbeats 4000000 in
theorem WTold_any (base M B : Nat) (adp adc : Option Addr) (capp capc : Nat) (L : List Ent) (k0 G : Nat) (fits : Bool) (w : World) (hW : WideAt base M w B (.slice adp L.length capp) (.slice adc L.length capc) L) (hM : 0 < M) (hlen : L.length ≤ 100000) (hbL : ∀ e ∈ L, e.z.natAbs < 1000000 ^ k0) (hbM : M < 1000000 ^ k0) (hk0 : k0 ≤ 1000) (hk1 : 3 ≤ k0) (hG : gList M (zsOf L) = G) (hfit : fits = true ↔ FitsW M G L) :
    Calls Tryz.prog 23 #[.pointer (some ⟨B, 0, none⟩)] w fun e w' => ((fits = true ∧ ∃ v, e = .returned (.tuple #[.agg #[.int .i64 ((M / G : Nat) : Int), v], .int .i64 0]) ∧ w'.ownsRow w.heap.size 43 2 v (overL G (absL L)).length (flat (overL G (absL L)))) ∨ (fits = false ∧ e = .returned (.tuple #[.agg #[.int .i64 0, .slice none 0 0], .int .i64 2]))) ∧ Below w.heap.size w w' := by
  have hb0 : Below w.heap.size w (w.alloc (.cells #[.int .i64 0, .slice none 0 0] 28)) := new_below _ _
  have HWA : Hid (∀ W, Below (w.alloc (.cells #[.int .i64 0, .slice none 0 0] 28)).heap.size (w.alloc (.cells #[.int .i64 0, .slice none 0 0] 28)) W → WideAt base M W B (.slice adp L.length capp) (.slice adc L.length capc) L ∧ W.cell? ⟨w.heap.size, 0, none⟩ = some (.int .i64 0) ∧ W.cell? ⟨w.heap.size, 1, none⟩ = some (.slice none 0 0) ∧ W.frozen? ⟨w.heap.size, 0, none⟩ = false ∧ W.frozen? ⟨w.heap.size, 1, none⟩ = false ∧ Below w.heap.size w W) := fun W hb => by
    obtain ⟨q0, q1, q2, q3⟩ := res_past hb
    exact ⟨(hW.later hb0).later hb, q0, q1, q2, q3, below_chain hb0 hb⟩
  obtain ⟨W0, hW0⟩ : ∃ W0, W0 = w.alloc (.cells #[.int .i64 0, .slice none 0 0] 28) := ⟨_, rfl⟩
  have HSZ : Hid (W0.heap.size = w.heap.size + 1) := by show _ = _; rw [hW0]; simp
  have hone := BigOf_any 1 W0 (by omega)
  rw [← hW0] at HWA
  have HW0 := Hid.mk' hW0
  have HBL := Hid.mk' hbL
  have HG := Hid.mk' hG
  have HFIT := Hid.mk' hfit
  clear hb0 hW hbL hW0 hG hfit
  have hp6 : 1000000 < 1000000 ^ k0 := by
    have h1 : (1000000 : Nat) ^ 3 ≤ 1000000 ^ k0 := Nat.pow_le_pow_right (by decide) hk1
    omega
  have hp40 : 1099511627776 < 1000000 ^ k0 := by
    have h1 : (1000000 : Nat) ^ 3 ≤ 1000000 ^ k0 := Nat.pow_le_pow_right (by decide) hk1
    omega
  go_enter Tryz.func23, Tryz.ntmps23
  go_wp2_with fail
  rw [← HW0.out]
  refine hone.mono ?_
  clear hone
  rintro e w1 ⟨v1, rfl, hv1, hb1⟩
  have HV1 := Hid.mk' hv1
  have HB1 := Hid.mk' hb1
  clear hv1 hb1
  go_wp2_with fail
  go_loopw [4, 5] (fun t i wr => ∃ k : Nat, k ≤ L.length ∧ i = .int .i64 k ∧ Hid (BigAt wr t (M / gT M L k)) ∧ Hid (Below W0.heap.size W0 wr)) (fun _ i _ => L.length - (intOf i).toNat)
  case atStart => exact ⟨0, by omega, rfl, by show BigAt _ _ _; rw [show M / gT M L 0 = 1 from Nat.div_self hM]; exact HV1.out, HB1⟩
  case round =>
    clear HV1 HB1
    obtain ⟨k, hk, rfl, HD, HB⟩ := hrel
    obtain ⟨hWr, _⟩ := HWA.out wr HB.out
    have cc := hWr.cc
    have hk0 : (0 : Int) ≤ (k : Int) := by omega
    by_cases hlt : k < L.length
    · have hkI : (k : Int) < (L.length : Int) := by omega
      obtain ⟨f, hf⟩ : ∃ f, L[k]? = some f := ⟨_, List.getElem?_eq_getElem hlt⟩
      have hmem : f ∈ L := List.mem_of_getElem? hf
      obtain ⟨gp, gc, rfl, rfl, _, _, _, c2⟩ := hWr.cells hf
      obtain ⟨u, q, he, _, hq⟩ := hWr.R f hmem
      have hfq : f.q = q := by unfold Ent.val at he; injection he with he; injection he with he; injection he with _ he; injection he with _ he; injection he
      obtain ⟨qa, ql, qc, hqs, _⟩ := hq.len
      rw [hqs] at hq hfq
      rw [hfq] at c2
      have hld := lowD_pos hM f.z
      have hldk : lowD M f.z < 1000000 ^ k0 := Nat.lt_of_le_of_lt (lowD_le _ _) hbM
      have hgcd := BigGcd_any u4 (.slice qa ql qc) _ _ k0 wr HD.out hq (den_lt hbM L k) hldk (by omega)
      have HQ := Hid.mk' hq
      have HNX := Hid.mk' (den_next hM hf)
      have hgl : Nat.gcd (M / gT M L k) (lowD M f.z) ≤ lowD M f.z := Nat.gcd_le_right _ hld
      have hgp : 0 < Nat.gcd (M / gT M L k) (lowD M f.z) := Nat.gcd_pos_of_pos_right _ hld
      have hk1' : 1000000 ^ k0 < 1000000 ^ (k0 + 1) := Nat.pow_lt_pow_right (by decide) (by omega)
      have HPT : Hid (∀ (v : Value) (W : World), BigAt W (.slice qa ql qc) (lowD M f.z) → BigAt W v (Nat.gcd (M / gT M L k) (lowD M f.z)) → Calls Tryz.prog 49 #[.slice qa ql qc, v] W fun e w' => ∃ q r, e = .returned (.tuple #[q, r]) ∧ BigAt w' q (lowD M f.z / Nat.gcd (M / gT M L k) (lowD M f.z)) ∧ BigAt w' r (lowD M f.z % Nat.gcd (M / gT M L k) (lowD M f.z)) ∧ Below W.heap.size W w') := fun v W h1 h2 => BigPart_any k0 (by omega) (lowD M f.z) hldk _ _ rfl hgp (by omega) _ _ W h1 h2
      have HML : Hid (M / gT M L k < 1000000 ^ k0 ∧ lowD M f.z / Nat.gcd (M / gT M L k) (lowD M f.z) < 1000000 ^ k0) := ⟨den_lt hbM L k, Nat.lt_of_le_of_lt (Nat.div_le_self _ _) hldk⟩
      have HKC : Hid (∀ W, Below wr.heap.size wr W → W.cell? ⟨B, 1, none⟩ = some (.slice (some ⟨gc, 0, none⟩) L.length capc) ∧ W.cell? ⟨gc, k * 3 + 2, none⟩ = some (.slice qa ql qc)) := fun W hb => ⟨(cell_past cc hb).2, (cell_past c2 hb).2⟩
      clear hWr he hfq hq hqs hf hmem hld hldk hgl hgp hk1'
      go_wp2_with fail
      refine hgcd.mono ?_
      clear hgcd
      rintro e w2 ⟨r2, rfl, hr2, hb2⟩
      obtain ⟨cc2, c22⟩ := HKC.out w2 hb2
      have hpt := HPT.out r2 w2 (HQ.out.later hb2) hr2
      have HB2 := Hid.mk' hb2
      clear cc c2 hr2 hb2
      go_wp2_with fail
      refine hpt.mono ?_
      clear hpt
      rintro e w3 ⟨q3, r3, rfl, hq3, hr3, hb3⟩
      have hmul := BigMul_any u4 q3 _ _ k0 w3 (HD.out.later (below_chain HB2.out hb3)) hq3 HML.out.1 HML.out.2 (by omega)
      have HB3 := Hid.mk' (below_chain HB2.out hb3)
      clear hq3 hr3 hb3 cc2 c22
      go_wp2_with fail
      refine hmul.mono ?_
      clear hmul
      rintro e w4 ⟨v4, rfl, hv4, hb4⟩
      rw [HNX.out] at hv4
      go_wp2_with fail
      exact ⟨⟨k + 1, by omega, by go_num, hv4, below_chain (below_chain HB.out HB3.out) hb4⟩, by simp [intOf]; omega⟩
    · obtain rfl : k = L.length := by omega
      have hD := HD.out
      rw [gT_all, HG.out] at hD
      have HD2 := Hid.mk' hD
      have hGM : G ∣ M := by rw [← HG.out]; exact gList_dvd_base _ _
      have HGZ : Hid (∀ e ∈ L, G ∣ e.z.natAbs) := fun e he => by rw [← HG.out]; exact (gList_dvd (zsOf L) M).2 _ (List.mem_map.2 ⟨e, he, rfl⟩)
      have hdl : M / G < 1000000 ^ k0 := Nat.lt_of_le_of_lt (Nat.div_le_self _ _) hbM
      have hmil := BigOf_any 1000000 wr (by omega)
      have HGM := Hid.mk' hGM
      clear hWr HD hD hGM hk hlt
      go_wp2_with fail
      refine hmil.mono ?_
      clear hmil
      rintro e w2 ⟨v2, rfl, hv2, hb2⟩
      have hcmp := BigCmp_any u4 v2 _ _ k0 w2 (HD2.out.later hb2) hv2 hdl hp6 (by omega)
      have HB2 := Hid.mk' (below_chain HB.out hb2)
      have HD3 := Hid.mk' (HD2.out.later hb2)
      clear hv2 hb2 cc HD2
      by_cases hbig : 1000000 < M / G
      · rw [cmpOf_gt hbig] at hcmp
        have hff : fits = false := by
          cases fits
          · rfl
          · have := (HFIT.out.1 rfl).1; omega
        go_wp2_with fail
        refine hcmp.mono ?_
        clear hcmp
        rintro e w3 ⟨rfl, m3, hw3⟩
        obtain ⟨_, z0, z1, f0, f1, hbw⟩ := HWA.out w3 (by rw [hw3]; exact below_drewN HB2.out m3)
        clear hw3
        go_wp2_with fail
        refine bodyPost_ret (v := .tuple #[.agg #[.int .i64 0, .slice none 0 0], .int .i64 2]) (by simp [results, Tryz.results23, go_sem, z0, z1]) rfl ⟨Or.inr ⟨hff, rfl⟩, (hbw.setCell (by simp) _).setCell (by simp) _⟩
      · obtain ⟨cm, hcm⟩ : ∃ cm, cmpOf (M / G) 1000000 = cm := ⟨_, rfl⟩
        have hcm0 : cm ≤ 0 := by
          rw [← hcm]
          rcases Nat.lt_or_ge (M / G) 1000000 with h | h
          · rw [cmpOf_lt h]; omega
          · rw [cmpOf_eq (by omega)]; omega
        rw [hcm] at hcmp
        clear hcm
        go_wp2_with fail
        refine hcmp.mono ?_
        clear hcmp
        rintro e w3 ⟨rfl, m3, hw3⟩
        have hb3 : Below w2.heap.size w2 w3 := by rw [hw3]; exact below_drewN (Below.refl _ _) m3
        clear hw3
        have hint := BigInt_any u4 (M / G) w3 (HD3.out.later hb3) (by omega)
        have HB3 := Hid.mk' (below_chain HB2.out hb3)
        have HD4 := Hid.mk' (HD3.out.later hb3)
        clear hb3 HD3 HB2
        go_wp2_with fail
        refine hint.mono ?_
        clear hint
        rintro e w4 ⟨rfl, hw4⟩
        rw [hw4]
        clear hw4
        have HS0 : Hid (InOut w3 (w3.alloc (.cells #[.int .i64 ((M / G : Nat) : Int), .slice none 0 0] 28)) ((M / G : Nat) : Int) (.slice none 0 0) 0 []) := InOut.start w3 _
        have HX40 := Hid.mk' hp40
        clear hp40 hp6 hdl
        go_wp2_with fail
        go_loopw [12] (fun i wr => ∃ (k : Nat) (sv : Value), k ≤ L.length ∧ i = .int .i64 k ∧ Hid (InOut w3 wr ((M / G : Nat) : Int) sv (overL G (absL (L.take k))).length (flat (overL G (absL (L.take k))))) ∧ Hid (∀ e ∈ L.take k, (e.z.tdiv (G : Int)).natAbs ≤ 1099511627776)) (fun i _ => L.length - (intOf i).toNat)
        case atStart => exact ⟨0, .slice none 0 0, by omega, rfl, HS0.out, (fun e he => by simp at he)⟩
        case round =>
          clear HS0 HB
          obtain ⟨k, sv, hk, rfl, HO, HLE⟩ := hrel
          have HBR := Hid.mk' (below_chain HB3.out HO.out.keep)
          obtain ⟨hWr, _⟩ := HWA.out wr HBR.out
          have cc := hWr.cc
          have hk0I : (0 : Int) ≤ (k : Int) := by omega
          by_cases hlt : k < L.length
          · have hkI : (k : Int) < (L.length : Int) := by omega
            obtain ⟨f, hf⟩ : ∃ f, L[k]? = some f := ⟨_, List.getElem?_eq_getElem hlt⟩
            have hmem : f ∈ L := List.mem_of_getElem? hf
            obtain ⟨gp, gc, rfl, rfl, e0, c0, c1, c2⟩ := hWr.cells hf
            obtain ⟨fs, fa, fl, fc, fa', fl', fc', q0, q1, q2⟩ := Ent.parts (hWr.R f hmem)
            rw [q0] at c0
            rw [q1] at c1
            rw [q2] at c2
            have hRf := hWr.R f hmem
            unfold Ent.val at hRf
            rw [q0, q1, q2] at hRf
            have HKS : Hid (∀ W, Below wr.heap.size wr W → W.cell? ⟨B, 1, none⟩ = some (.slice (some ⟨gc, 0, none⟩) L.length capc) ∧ W.cell? ⟨gc, k * 3, none⟩ = some (.bool fs) ∧ W.cell? ⟨gc, k * 3 + 1, none⟩ = some (.slice fa fl fc) ∧ W.cell? ⟨gc, k * 3 + 2, none⟩ = some (.slice fa' fl' fc')) := fun W hb => ⟨(cell_past cc hb).2, (cell_past c0 hb).2, (cell_past c1 hb).2, (cell_past c2 hb).2⟩
            have HPP : Hid (∀ W, Below wr.heap.size wr W → W.cell? ⟨B, 0, none⟩ = some (.slice (some ⟨gp, 0, none⟩) L.length capp) ∧ W.cell? ⟨gp, k, none⟩ = some (.int .i64 (f.p : Int))) := fun W hb => ⟨(cell_past hWr.cp hb).2, (cell_past e0 hb).2⟩
            have hcw := coef_whole (z := f.z) hM HGM.out (HGZ.out f hmem)
            have HTI : Hid (∀ (W : World) (ad1 ad2 : Option Addr) (l1 c1 l2 c2 : Nat), Below wr.heap.size wr W → BigAt W (.slice ad1 l1 c1) (M / G) → BigAt W (.slice ad2 l2 c2) 1 → Calls Tryz.prog 43 #[.agg #[.bool fs, .slice fa fl fc, .slice fa' fl' fc'], .agg #[.bool false, .slice ad1 l1 c1, .slice ad2 l2 c2]] W fun e w' => ∃ r, e = .returned r ∧ RatioAt w' r (f.z.tdiv (G : Int)) 1 ∧ Below W.heap.size W w') := fun W ad1 ad2 l1 c1 l2 c2 hb h1 h2 => by
              have h3 : RatioAt W (.agg #[.bool false, .slice ad1 l1 c1, .slice ad2 l2 c2]) ((M / G : Nat) : Int) 1 := ⟨_, _, by rw [decide_eq_false (nat_not_neg _)], by rw [Int.natAbs_natCast]; exact h1, h2⟩
              have h4 := Times_ratio _ _ _ _ _ _ k0 W (hRf.later hb) h3 (lowD_pos hM _) (by decide) (Nat.lt_of_le_of_lt (lowN_le hM _) (HBL.out f hmem)) (by rw [Int.natAbs_natCast]; exact Nat.lt_of_le_of_lt (Nat.div_le_self _ _) hbM) (Nat.lt_of_le_of_lt (lowD_le _ _) hbM) (Nat.one_lt_pow (by omega) (by decide)) (by omega)
              rw [hcw.1, hcw.2] at h4
              exact h4
            have HQB : Hid ((f.z.tdiv (G : Int)).natAbs < 1000000 ^ k0) := by
              show _ < _
              have h1 : (f.z.tdiv (G : Int)).natAbs ≤ f.z.natAbs := by rw [Int.natAbs_tdiv]; exact Nat.div_le_self _ _
              exact Nat.lt_of_le_of_lt h1 (HBL.out f hmem)
            have HFM : Hid (fits = true → (f.z.tdiv (G : Int)).natAbs ≤ 1099511627776) := fun h => (HFIT.out.1 h).2 f hmem
            have HOV := Hid.mk' (over_next (G := G) hf)
            have HLN : Hid ((f.z.tdiv (G : Int)).natAbs ≤ 1099511627776 → ∀ e ∈ L.take (k + 1), (e.z.tdiv (G : Int)).natAbs ≤ 1099511627776) := fun h e he => by
              have h1 : L.take (k + 1) = L.take k ++ [f] := by
                rw [List.take_succ_eq_append_getElem hlt]
                rw [List.getElem?_eq_getElem hlt] at hf
                rw [Option.some.inj hf]
              rw [h1] at he
              rcases List.mem_append.1 he with he | he
              · exact HLE.out e he
              · rw [List.mem_singleton.1 he]; exact h
            generalize f.z.tdiv (G : Int) = q at HTI HQB HFM HOV HLN
            generalize hfp : (f.p : Int) = p at HPP HOV
            have HDW : Hid (∀ W, Below wr.heap.size wr W → BigAt W u4 (M / G)) := fun W hb => HD4.out.later (below_chain HO.out.keep hb)
            have hcur0 : Below wr.heap.size wr wr := Below.refl _ _
            have hcur : Below wr.heap.size wr wr.drew := (Below.refl _ _).drew
            have hcurA : ∀ X, Below wr.heap.size wr (wr.alloc X).drew := fun X => (new_below _ _).drew
            clear hWr hmem hRf hcw q0 q1 q2 hf e0 hfp HGZ HGM HLE HBL
            go_upto_region 15 with fail
            go_cut [13] from 64 to 119 (fun s wx => ∃ Bs : Nat, s = .pointer (some ⟨Bs, 0, none⟩) ∧ Hid (RatBox wr wx Bs q))
            case first =>
              clear cc c0 c1 c2
              go_region_held3 (fun W => W.cell? ⟨B, 1, none⟩ = some (.slice (some ⟨gc, 0, none⟩) L.length capc) ∧ W.cell? ⟨gc, k * 3, none⟩ = some (.bool fs) ∧ W.cell? ⟨gc, k * 3 + 1, none⟩ = some (.slice fa fl fc) ∧ W.cell? ⟨gc, k * 3 + 2, none⟩ = some (.slice fa' fl' fc'))
                (first | exact HKS.out _ hcur0 | exact HKS.out _ hcur | exact HKS.out _ (hcurA _) | (refine HKS.out _ ?_; assumption) | (refine HKS.out _ (more_below ?_ _); assumption) | (refine HKS.out _ (below_set3 ?_ NB.hB _ _ _); assumption))
                (first
                  | (go_at_call 43; refine (HTI.out _ _ _ _ _ _ _ ?_ (HX1.out _ ?_) (HX2.out _ ?_)).mono ?_; (first | exact hbw2 | exact more_below hbw2 _); (first | exact h12 | exact more_below h12 _); (first | exact Below.refl _ _ | exact new_below _ _); rintro e w7 ⟨rv, rfl, ⟨ur, qr, rfl, hur, hqr⟩, hb7⟩; obtain ⟨ad8, l8, cap8, rfl, _⟩ := hur.len; obtain ⟨ad9, l9, cap9, rfl, _⟩ := hqr.len; (first | (have hbw7 := below_chain hbw2 hb7; try have NB := NB.later hb7) | (have hbw7 := below_chain (more_below hbw2 _) hb7; have NB := newBox3_of hbw2 hb7)); (try (have y0 := NB.c0; have y1 := NB.c1; have y2 := NB.c2; have y3 := NB.f0; have y4 := NB.f1; have y5 := NB.f2)); have HUR := Hid.mk' hur; clear hur hqr hb7)
                  | (go_at_call 47; refine (BigOf_any 1 _ (by omega)).mono ?_; rintro e w6 ⟨v6, rfl, hv6, hb6⟩; obtain ⟨ad6, l6, cap6, rfl, _⟩ := hv6.len; (first | (have hbw2 := below_chain hbw1 hb6; have h12 := below_chain (Below.refl _ w5) hb6; try have NB := NB.later hb6) | (have hbw2 := below_chain (more_below hbw1 _) hb6; have h12 := below_chain (new_below w5 _) hb6; have NB := newBox3_of hbw1 hb6)); have HX2 : Hid (∀ W, Below w6.heap.size w6 W → BigAt W (.slice ad6 l6 cap6) 1) := (fun W hb => hv6.later hb); clear hv6 hb6)
                  | (go_at_call 53; refine (wide_any u4 (M / G) _ (HDW.out _ ?_)).mono ?_; (first | exact hcur | exact hcurA _); rintro e w5 ⟨sv5, rfl, ⟨x5, rfl, hx5⟩, hb5⟩; rw [decide_eq_false (nat_not_neg (M / G))]; obtain ⟨ad5, l5, cap5, rfl, _⟩ := hx5.len; (first | have hbw1 := below_chain hcur hb5 | (have hbw1 := below_chain (hcurA _) hb5; have NB := newBox3_of hcur0 (below_chain ((Below.refl _ _).drew) hb5))); have HX1 : Hid (∀ W, Below w5.heap.size w5 W → BigAt W (.slice ad5 l5 cap5) (M / G)) := (fun W hb => by have h1 := hx5.later hb; rwa [Int.natAbs_natCast] at h1); clear hx5 hb5))
              all_goals
                go_wp2_with fail
                go_meet
                first | exact ⟨_, rfl, ratBox_late hbw7 HUR.out⟩ | exact ⟨_, rfl, ratBox_soon hbw7 HUR.out NB⟩
            case rest =>
            obtain ⟨Bs, rfl, HRB⟩ := hcut
            obtain ⟨ur, x0, x1, hu⟩ := HRB.out.box
            obtain ⟨ad, l, cap, rfl, _⟩ := hu.len
            obtain ⟨sg, hsg⟩ : ∃ sg, decide (q < 0) = sg := ⟨_, rfl⟩
            rw [hsg] at x0
            have hx1' : ∀ W, Below wc.heap.size wc W → W.cell? ⟨Bs, 0, none⟩ = some (.bool sg) ∧ W.cell? ⟨Bs, 1, none⟩ = some (.slice ad l cap) := fun W hb => ⟨(cell_past x0 hb).2, (cell_past x1 hb).2⟩
            have HX := Hid.mk' hx1'
            have HU := Hid.mk' hu
            have HSG := Hid.mk' hsg
            have hc0 : Below wc.heap.size wc wc := Below.refl _ _
            have hc1 : Below wc.heap.size wc wc.drew := (Below.refl _ _).drew
            have HBC := Hid.mk' HRB.out.below
            obtain ⟨cm2, hcm2⟩ : ∃ cm2, cmpOf q.natAbs 1099511627776 = cm2 := ⟨_, rfl⟩
            have hcmp : ∀ (v : Value) (W : World), Below wc.heap.size wc W → BigAt W v 1099511627776 → Calls Tryz.prog 51 #[.slice ad l cap, v] W fun e w' => e = .returned (.int .i64 cm2) ∧ ∃ m, w' = W.drewN m := fun v W hb hv => by
              have := BigCmp_any (.slice ad l cap) v q.natAbs 1099511627776 k0 W (hu.later hb) hv HQB.out HX40.out (by omega)
              rw [hcm2] at this
              exact this
            have HCMP := Hid.mk' hcmp
            have HCM := Hid.mk' hcm2
            clear hx1' hu hsg hcmp hcm2 x0 x1 cc c0 c1 c2
            go_upto_region 16 with fail
            go_cut [90] from 64 to 119 (fun s wx => s = .bool (decide (0 < cm2)) ∧ Hid (Below wc.heap.size wc wx))
            case first =>
              go_region_held3 (fun W => W.cell? ⟨Bs, 1, none⟩ = some (.slice ad l cap))
                (first | exact (HX.out _ hc0).2 | exact (HX.out _ hc1).2 | exact (HX.out _ hc2).2 | exact (HX.out _ hc3).2)
                (first
                  | (go_at_call 51; refine (HCMP.out _ _ hc2 HV8.out).mono ?_; rintro e w9 ⟨rfl, m9, hw9⟩; have hc3 : Below wc.heap.size wc w9 := (by rw [hw9]; exact below_drewN hc2 m9); clear hw9)
                  | (go_at_call 47; refine (BigOf_any 1099511627776 _ (by omega)).mono ?_; rintro e w8 ⟨v8, rfl, hv8, hb8⟩; have hc2 := below_chain hc1 hb8; have HV8 := Hid.mk' hv8; clear hv8 hb8))
              all_goals
                go_wp2_with fail
                go_meet
                exact ⟨rfl, hc3⟩
            case rest =>
            obtain ⟨rfl, HBX⟩ := hcut
            by_cases hle40 : q.natAbs ≤ 1099511627776
            · have hcm : decide (0 < cm2) = false := by
                rw [← HCM.out]
                rcases Nat.lt_or_ge q.natAbs 1099511627776 with h | h
                · rw [cmpOf_lt h]; decide
                · rw [cmpOf_eq (by omega)]; decide
              rw [hcm]
              clear hcm
              obtain ⟨x0, x1⟩ := HX.out wc HBX.out
              have hint := BigInt_any (.slice ad l cap) q.natAbs wc (HU.out.later HBX.out) (by omega)
              have HO2 := Hid.mk' (HO.out.later (below_chain HBC.out HBX.out))
              obtain ⟨p0, p1⟩ := HPP.out wc (below_chain HBC.out HBX.out)
              have y0 := HO2.out.o0
              have y1 := HO2.out.o1
              have yf := HO2.out.fz
              have hcn2 := take_len_le (G := G) L k
              have hsz : w3.heap.size < wc.heap.size := cell_lt HO2.out.o0
              obtain ⟨i0, hi, hz0, hz1, hz2⟩ := info_parts Tryz.infoTerm
              have HINF : Hid (Tryz.prog.info? 43 = some i0 ∧ i0.zero = some (.agg #[.int .i64 0, .int .i64 0]) ∧ i0.size = 2 ∧ i0.bytes = 16) := ⟨hi, hz0, hz1, hz2⟩
              have HLN2 := Hid.mk' (HLN.out hle40)
              have HO2d := Hid.mk' (HO2.out.later (wn := wc.drew) (Below.refl _ _).drew)
              have y1a : ∀ X, (wc.alloc X).cell? ⟨w3.heap.size, 1, none⟩ = some sv := fun X => (cell_past y1 (new_below _ X)).2
              clear hi hz0 hz1 hz2 HO HBX HX HU HLN HCM HCMP HKS HTI HFM HQB HPP HBC HRB hc0 hc1 hcur hcur0 hcurA HDW
              rcases Int.lt_trichotomy q 0 with hq | hq | hq
              · have hs := HSG.out
                rw [decide_eq_true hq] at hs
                subst hs
                obtain ⟨m, hm⟩ : ∃ m : Nat, q.natAbs = m := ⟨_, rfl⟩
                have hqm : q = -(m : Int) := by omega
                rw [hm] at hint hle40
                have hmI : (m : Int) ≤ 1099511627776 := by omega
                have hne : (-(m : Int) != 0) = true := by rw [bne_iff_ne]; omega
                have HQM := Hid.mk' hqm
                have HQ0 : Hid (¬ q = 0) := by show ¬ _; omega
                clear hqm hm hq HSG
                go_wp2_with fail
                refine hint.mono ?_
                clear hint
                rintro e w6 ⟨rfl, hw6⟩
                rw [hw6]
                clear hw6
                go_wp2_with fail
                go_region_law (first | (refine step_append_lies _ rfl _ _ _ rfl (w3.heap.size + 1) 43 i0 _ 2 16 Tryz.underlying26 HINF.out.1 HINF.out.2.1 HINF.out.2.2.1 HINF.out.2.2.2 rfl (by omega) sv _ _ rfl (by exact HO2d.out.row.alloc _) ⟨wc.heap.size, 0, none⟩ 1 1 [.int .i64 p, .int .i64 (-(m : Int))] rfl rfl (two_new _ _ _ _) (by simp [Value.oneCell']) (by omega) (by unfold maxLen; omega) (by omega) (by simp; omega) _ rfl ?_; intro g' cap' w8 hown8 hgrow8 hat8 hlt8; obtain ⟨z1, z2, HP8⟩ := HO2d.out.pushed hgrow8 hown8; have HPU := Hid.mk' HP8; clear hown8 hgrow8 hat8 HP8))
                all_goals
                go_wp2_with fail
                exact ⟨⟨k + 1, _, by omega, by go_num, by
                  show InOut _ _ _ _ _ _
                  rw [HOV.out, if_neg HQ0.out, flat_join, List.length_append, HQM.out]
                  exact HPU.out, HLN2⟩, by simp [intOf]; omega⟩
              · subst hq
                have hs := HSG.out
                rw [decide_eq_false (by decide)] at hs
                subst hs
                clear HSG
                go_wp2_with fail
                refine hint.mono ?_
                clear hint
                rintro e w6 ⟨rfl, hw6⟩
                rw [hw6]
                clear hw6
                go_wp2_with fail
                exact ⟨⟨k + 1, sv, by omega, by go_num, by
                  show InOut _ _ _ _ _ _
                  have h9 := HOV.out
                  simp only [if_true, List.append_nil] at h9
                  rw [h9]
                  exact HO2.out, HLN2⟩, by simp [intOf]; omega⟩
              · have hs := HSG.out
                rw [decide_eq_false (by omega)] at hs
                subst hs
                obtain ⟨m, hm⟩ : ∃ m : Nat, q.natAbs = m := ⟨_, rfl⟩
                have hqm : q = (m : Int) := by omega
                rw [hm] at hint hle40
                have hmI : (m : Int) ≤ 1099511627776 := by omega
                have hne : ((m : Int) != 0) = true := by rw [bne_iff_ne]; omega
                have HQM := Hid.mk' hqm
                have HQ0 : Hid (¬ q = 0) := by show ¬ _; omega
                clear hqm hm hq HSG
                go_wp2_with fail
                refine hint.mono ?_
                clear hint
                rintro e w6 ⟨rfl, hw6⟩
                rw [hw6]
                clear hw6
                go_wp2_with fail
                go_region_law (first | (refine step_append_lies _ rfl _ _ _ rfl (w3.heap.size + 1) 43 i0 _ 2 16 Tryz.underlying26 HINF.out.1 HINF.out.2.1 HINF.out.2.2.1 HINF.out.2.2.2 rfl (by omega) sv _ _ rfl (by exact HO2d.out.row.alloc _) ⟨wc.heap.size, 0, none⟩ 1 1 [.int .i64 p, .int .i64 (m : Int)] rfl rfl (two_new _ _ _ _) (by simp [Value.oneCell']) (by omega) (by unfold maxLen; omega) (by omega) (by simp; omega) _ rfl ?_; intro g' cap' w8 hown8 hgrow8 hat8 hlt8; obtain ⟨z1, z2, HP8⟩ := HO2d.out.pushed hgrow8 hown8; have HPU := Hid.mk' HP8; clear hown8 hgrow8 hat8 HP8))
                all_goals
                go_wp2_with fail
                exact ⟨⟨k + 1, _, by omega, by go_num, by
                  show InOut _ _ _ _ _ _
                  rw [HOV.out, if_neg HQ0.out, flat_join, List.length_append, HQM.out]
                  exact HPU.out, HLN2⟩, by simp [intOf]; omega⟩
            · have hcm : decide (0 < cm2) = true := by
                rw [← HCM.out, cmpOf_gt (by omega)]; decide
              rw [hcm]
              have hff : fits = false := by
                cases hx : fits
                · rfl
                · have := HFM.out hx; omega
              obtain ⟨_, z0, z1, f0, f1, hbw⟩ := HWA.out wc (below_chain HBR.out (below_chain HBC.out HBX.out))
              clear hcm
              go_wp2_with fail
              refine bodyPost_ret (v := .tuple #[.agg #[.int .i64 0, .slice none 0 0], .int .i64 2]) (by simp [results, Tryz.results23, go_sem, z0, z1]) rfl ⟨Or.inr ⟨hff, rfl⟩, (hbw.setCell (by simp) _).setCell (by simp) _⟩
          · obtain rfl : k = L.length := by omega
            obtain ⟨_, z0, z1, f0, f1, hbw⟩ := HWA.out wr HBR.out
            have hft : fits = true := HFIT.out.2 ⟨by omega, fun e he => HLE.out e (by rw [List.take_length]; exact he)⟩
            have hrow := HO.out.row
            rw [List.take_length] at hrow
            have hlt1 : w.heap.size < w3.heap.size := by have := HB3.out.size; have := HSZ.out; omega
            have y0 := HO.out.o0
            have y1 := HO.out.o1
            have HRW := Hid.mk' hrow
            have HBW := Hid.mk' hbw
            obtain ⟨ad, n', c', rfl⟩ : ∃ ad n' c', sv = .slice ad n' c' := by
              rcases hrow.2 with ⟨rfl, _⟩ | ⟨gg, cap', cur', rfl, _⟩
              · exact ⟨_, _, _, rfl⟩
              · exact ⟨_, _, _, rfl⟩
            clear hWr hrow hbw HO HLE hlt hk
            go_wp2_with fail
            refine bodyPost_ret (v := .tuple #[.agg #[.int .i64 ((M / G : Nat) : Int), .slice ad n' c'], .int .i64 0]) (by simp [results, Tryz.results23, go_sem, z0, z1]) rfl ⟨Or.inl ⟨hft, _, rfl, ?_⟩, (HBW.out.setCell (by simp) _).setCell (by simp) _⟩
            have h1 := ownsRow_setCell_below HRW.out (a := ⟨w.heap.size, 0, none⟩) (by show w.heap.size < _; omega) (.int .i64 ((M / G : Nat) : Int))
            have h2 := ownsRow_setCell_below h1 (a := ⟨w.heap.size, 1, none⟩) (by show w.heap.size < _; omega) (.slice ad n' c')
            exact row_base h2 (by omega)
end Go.Proofs.YtfnmpkkfdljgcaaGreatDoor

/- The law's isLog. -/
namespace Go.Proofs.YtfnmpkkfdljgcaaGreatDoor
open Go.RowKit

theorem same_own (den : Int) (v1 v2 : Value) (n : Nat) (p c : Nat → Int) (w : World) (h1 : OwnAt w v1 n p c) (h2 : OwnAt w v2 n p c) (hn : n ≤ 1000000) :
    Calls Tryz.prog 19 #[.agg #[.int .i64 den, v1], .agg #[.int .i64 den, v2]] w fun e w' => e = .returned (.bool true) ∧ Below w.heap.size w w' := by
  rcases h1 with ⟨rfl, rfl⟩ | ⟨g1, c1, rfl, t1⟩
  · rcases h2 with ⟨rfl, _⟩ | ⟨g2, c2, rfl, t2⟩
    · exact SameLog_none den none none 0 0 w
    · exact SameLog_none den none _ 0 c2 w
  · rcases h2 with ⟨rfl, rfl⟩ | ⟨g2, c2, rfl, t2⟩
    · exact SameLog_none den _ none c1 0 w
    · exact SameLog_some den g1 0 c1 g2 0 c2 n p c w t1 t2 hn
theorem own_form {w : World} {v : Value} {n : Nat} {p c : Nat → Int} (h : OwnAt w v n p c) : ∃ ad m cap, v = .slice ad m cap := by
  rcases h with ⟨rfl, _⟩ | ⟨g, cap, rfl, _⟩
  · exact ⟨_, _, _, rfl⟩
  · exact ⟨_, _, _, rfl⟩

set_option maxRecDepth 10000 in
set_option maxHeartbeats 1000000 in
theorem isLog_ok (den : Int) (v1 v2 : Value) (n : Nat) (p c : Nat → Int) (w : World) (h1 : OwnAt w v1 n p c) (h2 : OwnAt w v2 n p c) (hn : n ≤ 1000000) :
    Calls Tryz.prog 13 #[.agg #[.int .i64 den, v1], .nilIface, .agg #[.int .i64 den, v2], .int .i64 0] w fun e w' => e = .returned (.bool true) ∧ Below w.heap.size w w' := by
  obtain ⟨ad1, m1, cap1, rfl⟩ := own_form h1
  obtain ⟨ad2, m2, cap2, rfl⟩ := own_form h2
  have hb0 : Below w.heap.size w ((w.alloc (.cells #[.int .i64 den, .slice ad1 m1 cap1] 28)).alloc (.cells #[.int .i64 den, .slice ad2 m2 cap2] 28)) := ((Below.refl _ _).alloc (Nat.le_refl _) _).alloc (by simp) _
  have hs := same_own den _ _ n p c _ (h1.later hb0) (h2.later hb0) hn
  have HB := Hid.mk' hb0
  clear h1 h2 hb0
  go_enter Tryz.func13, Tryz.ntmps13
  go_wp2_with fail
  refine hs.mono ?_
  clear hs
  rintro e w1 ⟨rfl, hb1⟩
  go_wp2_with fail
  go_ret
  exact ⟨rfl, below_chain HB.out hb1⟩

set_option maxRecDepth 10000 in
set_option maxHeartbeats 1000000 in
theorem isLog_err (a : Nat → Addr) (k : Nat) (hk : k < 8) (d2 : Int) (ad2 : Option Addr) (m2 cap2 : Nat) (w : World) (h : Errs w a) :
    Calls Tryz.prog 13 #[.agg #[.int .i64 0, .slice none 0 0], .iface 159 (.pointer (some (a k))), .agg #[.int .i64 d2, .slice ad2 m2 cap2], .int .i64 ((k : Int) + 1)] w fun e w' => e = .returned (.bool true) ∧ Below w.heap.size w w' := by
  have hb0 : Below w.heap.size w ((w.alloc (.cells #[.int .i64 0, .slice none 0 0] 28)).alloc (.cells #[.int .i64 d2, .slice ad2 m2 cap2] 28)) := ((Below.refl _ _).alloc (Nat.le_refl _) _).alloc (by simp) _
  have hc := coded_err a k hk ((k : Int) + 1) _ (h.below hb0)
  rw [decide_eq_true rfl] at hc
  have HB := Hid.mk' hb0
  have hk1 : (0 : Int) < (k : Int) + 1 := by omega
  clear h hb0
  go_enter Tryz.func13, Tryz.ntmps13
  go_wp2_with fail
  refine hc.mono ?_
  clear hc
  rintro e w1 ⟨rfl, hb1⟩
  have c0 := hb1.cell (p := ⟨w.heap.size, 0, none⟩) (by simp; omega)
  have c1 := hb1.cell (p := ⟨w.heap.size, 1, none⟩) (by simp; omega)
  rw [World.cell?_alloc_lt _ _ ⟨w.heap.size, 0, none⟩ (by simp), World.cell?_alloc_at _ _ _ _ rfl] at c0
  rw [World.cell?_alloc_lt _ _ ⟨w.heap.size, 1, none⟩ (by simp), World.cell?_alloc_at _ _ _ _ rfl] at c1
  simp at c0 c1
  have HB1 := Hid.mk' (below_chain HB.out hb1)
  clear hb1
  go_wp2_with fail
  go_ret
  exact ⟨rfl, HB1.out⟩
end Go.Proofs.YtfnmpkkfdljgcaaGreatDoor

/- The document's LogSum. -/
namespace Go.Proofs.YtfnmpkkfdljgcaaGreatDoor
open Go.RowKit

def FitsL (M G : Nat) (l : List (Int × Int)) : Prop := M / G ≤ 1000000 ∧ ∀ e ∈ l, (e.2.tdiv (G : Int)).natAbs ≤ 1099511627776
theorem fits_iff (M G : Nat) (L : List Ent) : FitsW M G L ↔ FitsL M G (absL L) := by
  unfold FitsW FitsL
  constructor
  · rintro ⟨h1, h2⟩
    refine ⟨h1, fun e he => ?_⟩
    obtain ⟨f, hf, rfl⟩ := List.mem_map.1 he
    exact h2 f hf
  · rintro ⟨h1, h2⟩
    exact ⟨h1, fun e he => h2 _ (absL_mem he)⟩
theorem zs_abs (L : List Ent) : zsOf L = (absL L).map Prod.snd := by unfold zsOf absL; rw [List.map_map]; rfl
theorem bool_of (P : Prop) : ∃ b : Bool, b = true ↔ P := by
  by_cases h : P
  · exact ⟨true, ⟨fun _ => h, fun _ => rfl⟩⟩
  · exact ⟨false, ⟨(fun e => by cases e), (fun e => absurd e h)⟩⟩
/-- What is told of a sum l over M: in form, or the bound. -/
def ToldOf (M : Nat) (l : List (Int × Int)) (w : World) (dn : Int) (v : Value) (code : Int) : Prop := (FitsL M (gList M (l.map Prod.snd)) l ∧ dn = ((M / gList M (l.map Prod.snd) : Nat) : Int) ∧ code = 0 ∧ ListAt w v (overL (gList M (l.map Prod.snd)) l)) ∨ (¬ FitsL M (gList M (l.map Prod.snd)) l ∧ dn = 0 ∧ v = .slice none 0 0 ∧ code = 2)

end Go.Proofs.YtfnmpkkfdljgcaaGreatDoor

/- logs.Valid at any logarithm. -/
namespace Go.Proofs.YtfnmpkkfdljgcaaGreatDoor
open Go.RowKit

theorem LogAt.slice {w : World} {sv : Value} {n : Nat} {p c : Nat → Int} (h : LogAt w sv n p c) : ∃ ad cap, sv = .slice ad n cap := by
  rcases h with ⟨ad, cap, rfl, rfl⟩ | ⟨b, o, cap, rfl, _⟩
  · exact ⟨_, _, rfl⟩
  · exact ⟨_, _, rfl⟩
end Go.Proofs.YtfnmpkkfdljgcaaGreatDoor

/- logs.Add where the sum has a form. -/
namespace Go.Proofs.YtfnmpkkfdljgcaaGreatDoor
open Go.RowKit Go.Maps

/-- What the walk of Add keeps from a world on. -/
structure AddKeeps (B : Nat) (da db : Nat) (s1 s2 : Value) (n1 n2 : Nat) (t1 t2 : List (Int × Int)) (W : World) : Prop where
  a0 : W.cell? ⟨B, 0, none⟩ = some (.int .i64 da)
  a1 : W.cell? ⟨B, 1, none⟩ = some s1
  b0 : W.cell? ⟨B + 1, 0, none⟩ = some (.int .i64 db)
  b1 : W.cell? ⟨B + 1, 1, none⟩ = some s2
  r0 : W.cell? ⟨B + 1 + 1, 0, none⟩ = some (.int .i64 0)
  r1 : W.cell? ⟨B + 1 + 1, 1, none⟩ = some (.slice none 0 0)
  f0 : W.frozen? ⟨B + 1 + 1, 0, none⟩ = false
  f1 : W.frozen? ⟨B + 1 + 1, 1, none⟩ = false
  l1 : LogAt W s1 n1 (pOf t1) (cOf t1)
  l2 : LogAt W s2 n2 (pOf t2) (cOf t2)
theorem AddKeeps.later {B da db : Nat} {s1 s2 : Value} {n1 n2 : Nat} {t1 t2 : List (Int × Int)} {W W' : World} (h : AddKeeps B da db s1 s2 n1 n2 t1 t2 W) (hb : Below W.heap.size W W') : AddKeeps B da db s1 s2 n1 n2 t1 t2 W' :=
  ⟨(cell_past h.a0 hb).2, (cell_past h.a1 hb).2, (cell_past h.b0 hb).2, (cell_past h.b1 hb).2, (cell_past h.r0 hb).2, (cell_past h.r1 hb).2, (frozen_past h.r0 h.f0 hb).2, (frozen_past h.r1 h.f1 hb).2, h.l1.later hb, h.l2.later hb⟩

theorem box_past {w3 w4 : World} {x y : Value} {t : TypeId} (hb : Below ((w3.alloc (.cells #[x, y] t)).drew).heap.size ((w3.alloc (.cells #[x, y] t)).drew) w4) : w4.cell? ⟨w3.heap.size, 0, none⟩ = some x ∧ w4.cell? ⟨w3.heap.size, 1, none⟩ = some y ∧ w4.frozen? ⟨w3.heap.size, 0, none⟩ = false ∧ w4.frozen? ⟨w3.heap.size, 1, none⟩ = false := by
  have h : Below (w3.alloc (.cells #[x, y] t)).heap.size (w3.alloc (.cells #[x, y] t)) w4 := below_chain ((Below.refl _ _).drew) hb
  have c0 : (w3.alloc (.cells #[x, y] t)).cell? ⟨w3.heap.size, 0, none⟩ = some x := by rw [World.cell?_alloc_at _ _ _ _ rfl]; rfl
  have c1 : (w3.alloc (.cells #[x, y] t)).cell? ⟨w3.heap.size, 1, none⟩ = some y := by rw [World.cell?_alloc_at _ _ _ _ rfl]; rfl
  exact ⟨(cell_past c0 h).2, (cell_past c1 h).2, (frozen_past c0 (frozen_new rfl) h).2, (frozen_past c1 (frozen_new rfl) h).2⟩
theorem below_set {w3 w4 : World} (hc : Below w3.heap.size w3 w4) (x y : Value) : Below w3.heap.size w3 ((w4.setCell ⟨w3.heap.size, 0, none⟩ x).setCell ⟨w3.heap.size, 1, none⟩ y) := (hc.setCell (Nat.le_refl _) _).setCell (Nat.le_refl _) _
theorem quo_i64 {a b : Nat} (h : a ≤ 1000000) : IntKind.i64.wrap ((a : Int) / (b : Int)) = ((a / b : Nat) : Int) := by
  have h0 : (a : Int) / (b : Int) = ((a / b : Nat) : Int) := by simp
  have h1 : a / b ≤ a := Nat.div_le_self _ _
  rw [h0, IntKind.wrap_i64]
  generalize a / b = q at h1
  omega
theorem below_alloc {w W : World} (h : Below w.heap.size w W) (X : Obj) : Below w.heap.size w (W.alloc X) := h.alloc h.size X

/-- The new sum's box and its map. -/
structure SumBox (w3 wx : World) (Bs mb : Nat) (D : Int) : Prop where
  below : Below w3.heap.size w3 wx
  s0 : wx.cell? ⟨Bs, 0, none⟩ = some (.int .i64 D)
  s1 : wx.cell? ⟨Bs, 1, none⟩ = some (.map (some mb))
  own : wx.ownsMap Tryz.prog 3 (plainElem (H := Unit) Tryz.prog 3) mb 0 (mapOf [])
  hB : w3.heap.size ≤ Bs
  hm : w3.heap.size ≤ mb
theorem sumBox_late {w3 w4 : World} {D : Int} (ho : w4.ownsMap Tryz.prog 3 (plainElem (H := Unit) Tryz.prog 3) (w3.heap.size + 1) 0 (.map [])) (hc : Below w3.heap.size w3 w4) : SumBox w3 (w4.alloc (.cells #[.int .i64 D, .map (some (w3.heap.size + 1))] 83)) w4.heap.size (w3.heap.size + 1) D :=
  ⟨below_alloc hc _, by rw [World.cell?_alloc_at _ _ _ _ rfl]; rfl, by rw [World.cell?_alloc_at _ _ _ _ rfl]; rfl, ownsMap_later ho (Below.heap_alloc _ _ _ ho.lt), hc.size, by omega⟩
theorem sumBox_soon {w3 w4 : World} {D : Int} {u v : Value} (ho : w4.ownsMap Tryz.prog 3 (plainElem (H := Unit) Tryz.prog 3) (w3.heap.size + 1 + 1) 0 (.map [])) (hc : Below w3.heap.size w3 w4) (h0 : w4.cell? ⟨w3.heap.size, 0, none⟩ = some u) (h1 : w4.cell? ⟨w3.heap.size, 1, none⟩ = some v) :
    SumBox w3 ((w4.setCell ⟨w3.heap.size, 0, none⟩ (.int .i64 D)).setCell ⟨w3.heap.size, 1, none⟩ (.map (some (w3.heap.size + 1 + 1)))) w3.heap.size (w3.heap.size + 1 + 1) D := by
  refine ⟨below_set hc _ _, ?_, ?_, ownsMap_later ho ?_, Nat.le_refl _, by omega⟩
  · rw [World.cell?_setCell_other _ _ _ _ (by simp)]; exact World.cell?_setCell_same _ _ _ h0
  · exact World.cell?_setCell_same _ _ _ (by rw [World.cell?_setCell_other _ _ _ _ (by simp)]; exact h1)
  · rw [Below.heap_setCell _ _ _ _ (by show w3.heap.size + 1 + 1 ≠ w3.heap.size; omega), Below.heap_setCell _ _ _ _ (by show w3.heap.size + 1 + 1 ≠ w3.heap.size; omega)]
theorem grown_below {w3 W W' : World} {mb : Nat} (h : Below w3.heap.size w3 W) (hg : W.grownBy W' (some mb)) (hm : w3.heap.size ≤ mb) : Below w3.heap.size w3 W' :=
  h.grown hg h.size (fun k e => by cases e; exact hm)

end Go.Proofs.YtfnmpkkfdljgcaaGreatDoor

/- (sum).told in general: a form, or ErrBound. -/
namespace Go.Proofs.YtfnmpkkfdljgcaaGreatDoor
open Go.RowKit Go.Maps Go.Sort Go.Shelf

theorem all_next {cf : Int → Int} {G : Nat} {ks : List Int} {k : Nat} {p : Int} (ht : ks.take (k + 1) = ks.take k ++ [p]) (h : ∀ x ∈ ks.take k, (quo cf G x).natAbs ≤ 1099511627776) (hp : (quo cf G p).natAbs ≤ 1099511627776) : Hid (∀ x ∈ ks.take (k + 1), (quo cf G x).natAbs ≤ 1099511627776) := fun x hx => by
  rw [ht, List.mem_append] at hx
  rcases hx with hx | hx
  · exact h x hx
  · rw [List.mem_singleton] at hx; rw [hx]; exact hp

set_option maxRecDepth 100000 in
set_option maxHeartbeats 2000000 in
/-- told: a sum that has a form, or ErrBound. -/
theorem told_any (den : Int) (b nn : Nat) (D : DataW Unit) (cf : Int → Int) (ks : List Int) (w : World) (hown : w.ownsMap Tryz.prog 3 (plainElem Tryz.prog 3) b nn D)
    (hat : ∀ x, D.atKey (.int .i64 x) (.lit (.int .i64 0)) = .lit (.int .i64 (cf x))) (hks : ∀ ss : List Int, ss.Perm (intKeys D) → ss.mergeSort (fun x y => decide (x ≤ y)) = ks) (hsz : Maps.size D ≤ 100000) (hlen : ks.length ≤ 100000)
    (hwf : ∀ x ∈ ks, (Lit.int .i64 x).wf = true) (hd1 : 1 ≤ den) (hd2 : den ≤ 1000000000000) (hcf : ∀ x, -2305843009213693952 ≤ cf x ∧ cf x ≤ 2305843009213693952)
    (G : Nat) (hG : gcdL den cf ks ks.length = G) (a : Nat → Addr) (hE : Errs w a) (fit : Bool) (hfit : fit = true ↔ (den / (G : Int) ≤ 1000000 ∧ ∀ x ∈ ks, (quo cf G x).natAbs ≤ 1099511627776)) :
    Calls Tryz.prog 58 #[.agg #[.int .i64 den, .map (some b)]] w fun e w' => ((fit = true ∧ ∃ v, e = .returned (.tuple #[.agg #[.int .i64 (den / (G : Int)), v], .nilIface]) ∧ w'.ownsRow w.heap.size 43 2 v (countOf (quo cf G) ks) (termsOf (quo cf G) ks)) ∨ (fit = false ∧ e = .returned (.tuple #[.agg #[.int .i64 0, .slice none 0 0], .iface 159 (.pointer (some (a 1)))]))) ∧ Below w.heap.size w w' := by
  have hbl := hown.lt
  have HK : Hid (∀ ss : List Int, ss.Perm (intKeys D) → ss.mergeSort (fun x y => decide (x ≤ y)) = ks) := hks
  have HAT : Hid (∀ x, D.atKey (.int .i64 x) (.lit (.int .i64 0)) = .lit (.int .i64 (cf x))) := hat
  have HWF : Hid (∀ x ∈ ks, (Lit.int .i64 x).wf = true) := hwf
  have HCF : Hid (∀ x, -2305843009213693952 ≤ cf x ∧ cf x ≤ 2305843009213693952) := hcf
  have HG : Hid (gcdL den cf ks ks.length = G) := hG
  have HFIT := Hid.mk' hfit
  have HERR := Hid.mk' hE
  clear hks hat hwf hcf hG hfit hE
  have hb3 : Below w.heap.size w (((w.alloc (.cells #[.int .i64 den, .map (some b)] 83)).alloc (.cells #[.int .i64 0, .slice none 0 0] 28)).alloc (.cells #[.map (some b)] 81)) := (((Below.refl _ _).alloc (Nat.le_refl _) _).alloc (by simp) _).alloc (by simp; omega) _
  have hk := maps_keys (some b) ((w.alloc (.cells #[.int .i64 den, .map (some b)] 83)).alloc (.cells #[.int .i64 0, .slice none 0 0] 28))
  have hs := sorted_keys (w.heap.size + 1 + 1) b nn D _ (((w.alloc (.cells #[.int .i64 den, .map (some b)] 83)).alloc (.cells #[.int .i64 0, .slice none 0 0] 28)).alloc (.cells #[.map (some b)] 81)) (by rw [World.cell?_alloc_at _ _ _ _ (by simp)]; rfl) (by simp) (ownsMap_later hown (hb3.block b hbl)) (by unfold maxLen; omega) (by omega)
  go_enter Tryz.func58, Tryz.ntmps58
  go_wp2_with fail
  refine hk.mono ?_
  clear hk
  rintro e w1 ⟨rfl, rfl⟩
  go_wp2_with fail
  refine hs.mono ?_
  clear hs
  rintro e w2 ⟨v, ss, rfl, hperm, hrow, hnil, hb4⟩
  have hms := HK.out ss hperm
  rw [hms] at hrow
  have hsl : ss.length = ks.length := by rw [← hms]; simp
  rw [hsl] at hrow
  rcases hrow.2 with ⟨rfl, hz⟩ | ⟨g, cap, cur, rfl, hbase, hgb, r1, r2, r3, r4⟩
  · obtain rfl : ks = [] := List.eq_nil_of_length_eq_zero hz
    have hs4 := hb4.size
    simp at hs4
    have hbA := hb3.trans (hb4.mono (show w.heap.size ≤ _ by simp; omega))
    have x0 : w2.cell? ⟨w.heap.size, 0, none⟩ = some (.int .i64 den) := by
      rw [hb4.cell (p := ⟨w.heap.size, 0, none⟩) (by simp; omega), World.cell?_alloc_lt _ _ ⟨w.heap.size, 0, none⟩ (by simp; omega), World.cell?_alloc_lt _ _ ⟨w.heap.size, 0, none⟩ (by simp), World.cell?_alloc_at _ _ _ _ rfl]; rfl
    have z0 : w2.cell? ⟨w.heap.size + 1, 0, none⟩ = some (.int .i64 0) := by
      rw [hb4.cell (p := ⟨w.heap.size + 1, 0, none⟩) (by simp), World.cell?_alloc_lt _ _ ⟨w.heap.size + 1, 0, none⟩ (by simp), World.cell?_alloc_at _ _ _ _ (by simp)]; rfl
    have z1 : w2.cell? ⟨w.heap.size + 1, 1, none⟩ = some (.slice none 0 0) := by
      rw [hb4.cell (p := ⟨w.heap.size + 1, 1, none⟩) (by simp), World.cell?_alloc_lt _ _ ⟨w.heap.size + 1, 1, none⟩ (by simp), World.cell?_alloc_at _ _ _ _ (by simp)]; rfl
    have f0 : w2.frozen? ⟨w.heap.size + 1, 0, none⟩ = false := by
      rw [hb4.frozen (p := ⟨w.heap.size + 1, 0, none⟩) (by simp), World.frozen?_alloc_old _ _ ⟨w.heap.size + 1, 0, none⟩ (by simp)]; exact frozen_new (by simp)
    have f1 : w2.frozen? ⟨w.heap.size + 1, 1, none⟩ = false := by
      rw [hb4.frozen (p := ⟨w.heap.size + 1, 1, none⟩) (by simp), World.frozen?_alloc_old _ _ ⟨w.heap.size + 1, 1, none⟩ (by simp)]; exact frozen_new (by simp)
    obtain rfl : den.natAbs = G := HG.out
    have hG1 : (den.natAbs : Int) = den := by omega
    have hdd : den / den = 1 := Int.ediv_self (by omega)
    have HDD : Hid (den / (den.natAbs : Int) = 1) := by show _ = _; rw [hG1, hdd]
    have HBA : Hid (Below w.heap.size w w2) := hbA
    have hft : fit = true := HFIT.out.2 ⟨by rw [hG1, hdd]; omega, fun x hx => by cases hx⟩
    have HFT := Hid.mk' hft
    clear hrow hnil hb4 hb3 hbA HG hG1 hft
    have y0 : ∀ X, (w2.alloc X).cell? ⟨w.heap.size + 1, 0, none⟩ = some (.int .i64 0) := fun X => by rw [World.cell?_alloc_lt _ _ ⟨w.heap.size + 1, 0, none⟩ (by show w.heap.size + 1 < _; omega)]; exact z0
    have y1 : ∀ X, (w2.alloc X).cell? ⟨w.heap.size + 1, 1, none⟩ = some (.slice none 0 0) := fun X => by rw [World.cell?_alloc_lt _ _ ⟨w.heap.size + 1, 1, none⟩ (by show w.heap.size + 1 < _; omega)]; exact z1
    have g0 : ∀ X, (w2.alloc X).frozen? ⟨w.heap.size + 1, 0, none⟩ = false := fun X => by rw [World.frozen?_alloc_old _ _ ⟨w.heap.size + 1, 0, none⟩ (by show w.heap.size + 1 ≠ _; omega)]; exact f0
    have g1 : ∀ X, (w2.alloc X).frozen? ⟨w.heap.size + 1, 1, none⟩ = false := fun X => by rw [World.frozen?_alloc_old _ _ ⟨w.heap.size + 1, 1, none⟩ (by show w.heap.size + 1 ≠ _; omega)]; exact f1
    go_wp2_with fail
    refine wp_loop_rounds 1 ?_
    rw [rounds_succ]
    go_wp2_with fail
    refine wp_loop_rounds 1 ?_
    rw [rounds_succ]
    go_wp2_with fail
    refine bodyPost_ret (v := .tuple #[.agg #[.int .i64 1, .slice none 0 0], .nilIface]) (by simp [results, Tryz.results58, go_sem, y0, y1]) rfl ⟨Or.inl ⟨HFT.out, .slice none 0 0, by rw [HDD.out], ⟨rfl, Or.inl ⟨rfl, rfl⟩⟩⟩, ?_⟩
    exact ((HBA.out.alloc HBA.out.size _).setCell (by simp) _).setCell (by simp) _
  · have hI : InTold w w2 den b nn D g ks := by
      have hs4 := hb4.size
      simp at hs4
      refine ⟨?_, ?_, ?_, ?_, ?_, ?_, ?_, hb3.trans (hb4.mono (by simp; omega)), by omega, ?_⟩
      · rw [hb4.cell (p := ⟨w.heap.size, 0, none⟩) (by simp; omega), World.cell?_alloc_lt _ _ ⟨w.heap.size, 0, none⟩ (by simp; omega), World.cell?_alloc_lt _ _ ⟨w.heap.size, 0, none⟩ (by simp), World.cell?_alloc_at _ _ _ _ rfl]; rfl
      · rw [hb4.cell (p := ⟨w.heap.size, 1, none⟩) (by simp; omega), World.cell?_alloc_lt _ _ ⟨w.heap.size, 1, none⟩ (by simp; omega), World.cell?_alloc_lt _ _ ⟨w.heap.size, 1, none⟩ (by simp), World.cell?_alloc_at _ _ _ _ rfl]; rfl
      · rw [hb4.cell (p := ⟨w.heap.size + 1, 0, none⟩) (by simp), World.cell?_alloc_lt _ _ ⟨w.heap.size + 1, 0, none⟩ (by simp), World.cell?_alloc_at _ _ _ _ (by simp)]; rfl
      · rw [hb4.cell (p := ⟨w.heap.size + 1, 1, none⟩) (by simp), World.cell?_alloc_lt _ _ ⟨w.heap.size + 1, 1, none⟩ (by simp), World.cell?_alloc_at _ _ _ _ (by simp)]; rfl
      · rw [hb4.frozen (p := ⟨w.heap.size + 1, 0, none⟩) (by simp), World.frozen?_alloc_old _ _ ⟨w.heap.size + 1, 0, none⟩ (by simp)]; exact frozen_new (by simp)
      · rw [hb4.frozen (p := ⟨w.heap.size + 1, 1, none⟩) (by simp), World.frozen?_alloc_old _ _ ⟨w.heap.size + 1, 1, none⟩ (by simp)]; exact frozen_new (by simp)
      · exact ownsMap_later hown ((hb4.block b (by simp; omega)).trans (hb3.block b hbl))
      · intro i hi
        have : w2.cell? ⟨g, i, none⟩ = cur[i]? := by simp [World.cell?, hgb]
        have h5 : cur.toList[i]? = (ks.map encZ)[i]? := by rw [← r4, List.getElem?_take_of_lt (by omega)]
        rw [this, ← Array.getElem?_toList, h5]
        simp [encZ, hi]
    have HI : Hid (InTold w w2 den b nn D g ks) := hI
    clear hI hrow hnil hgb r4 r3 hb4 hb3
    have x0 := HI.out.box0
    go_wp2_with fail
    clear x0
    go_loopw [5, 20] (fun t i wr => ∃ k : Nat, k ≤ ks.length ∧ t = .int .i64 (gcdL den cf ks k) ∧ i = .int .i64 k ∧ Hid (InTold w wr den b nn D g ks)) (fun _ i _ => ks.length - (intOf i).toNat)
    case atStart => exact ⟨0, Nat.zero_le _, by show _ = Value.int IntKind.i64 ((den.natAbs : Nat) : Int); congr 1; omega, rfl, HI⟩
    case round =>
      clear HI
      obtain ⟨k, hk, rfl, rfl, HI⟩ := hrel
      have hgp := gcdTo_pos den (fun i => cf (ks.getD i 0)) hd1 k
      have HGP : Hid (1 ≤ gcdL den cf ks k ∧ gcdL den cf ks k ≤ den.natAbs) := hgp
      clear hgp
      have hg1 : 1 ≤ gcdL den cf ks k := HGP.out.1
      have hg2 : (gcdL den cf ks k : Int) ≤ 1000000000000 := by have := HGP.out.2; omega
      have x0 := HI.out.box0
      have x1 := HI.out.box1
      by_cases hlt : k < ks.length
      · have hck := HI.out.keys k hlt
        have hc1 := (HCF.out (ks.getD k 0)).1
        have hc2 := (HCF.out (ks.getD k 0)).2
        have hmem : ks.getD k 0 ∈ ks := by
          rw [List.getD_eq_getElem?_getD, List.getElem?_eq_getElem hlt]; exact List.getElem_mem hlt
        have hkey : keyOf Tryz.prog 3 (.int .i64 (ks.getD k 0)) = some (.int .i64 (ks.getD k 0)) := keyOf_int_mk Tryz.underlying3 (HWF.out _ hmem)
        have HKEY : Hid (keyOf Tryz.prog 3 (.int .i64 (ks.getD k 0)) = some (.int .i64 (ks.getD k 0))) := hkey
        obtain ⟨p, hp⟩ : ∃ p, p = ks.getD k 0 := ⟨_, rfl⟩
        have HP : Hid (p = ks.getD k 0) := hp
        rw [← hp] at hck hc1 hc2 HKEY
        clear hkey hmem hp
        go_wp2_with (first
          | (at_lookup; go_must (refine wpList_lookup_own_int _ rfl _ _ 81 rfl 3 3 .i64 Tryz.lawInt Tryz.underlying81 Tryz.underlying3 (Tryz.zeroInt _) b nn D rfl HI.out.own _ _ rfl HKEY.out ?_; intro c hat hwc; have hcc := coef_of HAT.out hat; clear hat hwc; subst hcc))
          | (go_at_call 71; refine (GCD_any _ _ _ (by omega) (by omega) (by omega) (by omega)).mono ?_; rintro e w' ⟨rfl, mm, rfl⟩))
        exact ⟨⟨k + 1, by omega, by show _ = Value.int IntKind.i64 ((Int.gcd (gcdL den cf ks k : Int) (cf (ks.getD k 0)) : Nat) : Int); rw [← HP.out], by go_num, HI.out.drewN mm⟩, by simp [intOf]; omega⟩
      · obtain rfl : k = ks.length := by omega
        have HG' := HG.out
        rw [HG'] at hg1 hg2 HGP ⊢
        clear HG'
        obtain ⟨i0, hi, hz0, hz1, hz2⟩ := info_parts Tryz.infoTerm
        have HINF : Hid (Tryz.prog.info? 43 = some i0 ∧ i0.zero = some (.agg #[.int .i64 0, .int .i64 0]) ∧ i0.size = 2 ∧ i0.bytes = 16) := ⟨hi, hz0, hz1, hz2⟩
        clear hi hz0 hz1 hz2
        have HS0 : Hid (InOut wr (wr.alloc (.cells #[.int .i64 (den / (G : Int)), .slice none 0 0] 28)) (den / (G : Int)) (.slice none 0 0) 0 []) := InOut.start wr _
        have hdq0 : 0 ≤ den / (G : Int) := Int.ediv_nonneg (by omega) (by omega)
        have HIN : Hid (InTold w wr den b nn D g ks) := HI.out
        clear HI
        by_cases hdq : den / (G : Int) ≤ 1000000
        case neg =>
          have hff : fit = false := not_true_of HFIT.out (fun h => hdq h.1)
          have hdq2 : den / (G : Int) ≤ 1000000000000 := Int.le_trans (Int.ediv_le_self _ (by omega)) hd2
          have hdq3 : 1000000 < den / (G : Int) := by omega
          have hbg := HIN.out.big
          have y0 : ∀ X, (wr.alloc X).cell? ⟨w.heap.size + 1, 0, none⟩ = some (.int .i64 0) := fun X => by rw [World.cell?_alloc_lt _ _ ⟨w.heap.size + 1, 0, none⟩ (cell_lt HIN.out.res0)]; exact HIN.out.res0
          have y1 : ∀ X, (wr.alloc X).cell? ⟨w.heap.size + 1, 1, none⟩ = some (.slice none 0 0) := fun X => by rw [World.cell?_alloc_lt _ _ ⟨w.heap.size + 1, 1, none⟩ (cell_lt HIN.out.res1)]; exact HIN.out.res1
          have g0 : ∀ X, (wr.alloc X).frozen? ⟨w.heap.size + 1, 0, none⟩ = false := fun X => by rw [World.frozen?_alloc_old _ _ ⟨w.heap.size + 1, 0, none⟩ (Nat.ne_of_lt (cell_lt HIN.out.res0))]; exact HIN.out.fr0
          have g1 : ∀ X, (wr.alloc X).frozen? ⟨w.heap.size + 1, 1, none⟩ = false := fun X => by rw [World.frozen?_alloc_old _ _ ⟨w.heap.size + 1, 1, none⟩ (Nat.ne_of_lt (cell_lt HIN.out.res1))]; exact HIN.out.fr1
          have ye : ∀ X, (wr.alloc X).cell? ⟨0, 0, none⟩ = some (.iface 159 (.pointer (some (a 1)))) := fun X => (HERR.out.below (HIN.out.below.alloc HIN.out.below.size X)).c1
          have ys : ∀ X, ((wr.alloc X).setCell ⟨w.heap.size + 1, 0, none⟩ (.int .i64 0)).cell? ⟨0, 0, none⟩ = some (.iface 159 (.pointer (some (a 1)))) := fun X => by rw [World.cell?_setCell_other _ _ _ _ (fun e => by have h : 0 < w.heap.size := cell_lt HERR.out.c1; have e' : w.heap.size + 1 = 0 := congrArg Addr.block e; omega)]; exact ye X
          clear hdq
          go_wp2_with fail
          go_region
          go_wp2_with fail
          refine bodyPost_ret (v := .tuple #[.agg #[.int .i64 0, .slice none 0 0], .iface 159 (.pointer (some (a 1)))]) (by simp [results, Tryz.results58, go_sem, y0, y1]) rfl ⟨Or.inr ⟨hff, rfl⟩, ?_⟩
          exact (((HIN.out.below.alloc HIN.out.below.size _).setCell (by simp) _).setCell (by simp) _).drew
        go_wp2_with fail
        clear x0 x1
        obtain ⟨w1, hw1⟩ : ∃ w1, w1 = wr := ⟨_, rfl⟩
        rw [← hw1] at HS0 HIN ⊢
        clear hw1
        go_loopw [43] (fun i wr => ∃ (k : Nat) (sv : Value), k ≤ ks.length ∧ i = .int .i64 k ∧ Hid (∀ x ∈ ks.take k, (quo cf G x).natAbs ≤ 1099511627776) ∧ Hid (InOut w1 wr (den / (G : Int)) sv (countOf (quo cf G) (ks.take k)) (termsOf (quo cf G) (ks.take k)))) (fun i _ => ks.length - (intOf i).toNat)
        case atStart => exact ⟨0, .slice none 0 0, Nat.zero_le _, rfl, (fun x hx => by simp at hx), HS0.out⟩
        case round =>
          clear HS0
          obtain ⟨k, sv, hk, rfl, HAL, HO⟩ := hrel
          have HI : Hid (InTold w wr den b nn D g ks) := HIN.out.later HO.out.keep
          have x0 := HI.out.box0
          have x1 := HI.out.box1
          have y0 := HO.out.o0
          have y1 := HO.out.o1
          have yf := HO.out.fz
          by_cases hlt : k < ks.length
          · have hck := HI.out.keys k hlt
            have hmem : ks.getD k 0 ∈ ks := by
              rw [List.getD_eq_getElem?_getD, List.getElem?_eq_getElem hlt]; exact List.getElem_mem hlt
            have HKEY : Hid (keyOf Tryz.prog 3 (.int .i64 (ks.getD k 0)) = some (.int .i64 (ks.getD k 0))) := keyOf_int_mk Tryz.underlying3 (HWF.out _ hmem)
            have hc1 := (HCF.out (ks.getD k 0)).1
            have hc2 := (HCF.out (ks.getD k 0)).2
            obtain ⟨p, hp⟩ : ∃ p, p = ks.getD k 0 := ⟨_, rfl⟩
            have HP : Hid (p = ks.getD k 0) := hp
            rw [← hp] at hck HKEY hc1 hc2
            have HMEM : Hid (p ∈ ks) := by rw [← hp] at hmem; exact hmem
            clear hmem hp
            obtain ⟨q, hqq⟩ : ∃ q, q = quo cf G p := ⟨_, rfl⟩
            have HQQ : Hid (q = quo cf G p) := hqq
            have hqe : (cf p).tdiv (G : Int) = q := hqq.symm
            clear hqq
            have htake : Hid (ks.take (k + 1) = ks.take k ++ [p]) := by
              show _ = _
              rw [List.take_succ_eq_append_getElem hlt, HP.out, List.getD_eq_getElem?_getD, List.getElem?_eq_getElem hlt]
              rfl
            by_cases hqb : q.natAbs ≤ 1099511627776
            case neg =>
              have hff : fit = false := not_true_of HFIT.out (fun h => hqb (by have := h.2 p HMEM.out; rwa [← HQQ.out] at this))
              have hqs : q.natAbs ≤ (cf p).natAbs := by rw [← hqe]; exact Int.natAbs_tdiv_le_natAbs _ _
              have hqB : (1099511627776 : Int) < (q.natAbs : Int) := by omega
              have z0 := HI.out.res0
              have z1 := HI.out.res1
              have f0 := HI.out.fr0
              have f1 := HI.out.fr1
              have ye := (HERR.out.below HI.out.below).c1
              have ys : (wr.setCell ⟨w.heap.size + 1, 0, none⟩ (.int .i64 0)).cell? ⟨0, 0, none⟩ = some (.iface 159 (.pointer (some (a 1)))) := by rw [World.cell?_setCell_other _ _ _ _ (fun e => by have h : 0 < w.heap.size := cell_lt HERR.out.c1; have e' : w.heap.size + 1 = 0 := congrArg Addr.block e; omega)]; exact ye
              clear hqb
              go_wp2_with (first
                | (at_lookup; go_must (refine wpList_lookup_own_int _ rfl _ _ 81 rfl 3 3 .i64 Tryz.lawInt Tryz.underlying81 Tryz.underlying3 (Tryz.zeroInt _) b nn D rfl HI.out.own _ _ rfl HKEY.out ?_; intro c hat hwc; have hcc := coef_of HAT.out hat; clear hat hwc; subst hcc))
                | (go_at_call 72; refine (size_any _ _ (by omega) (by omega)).mono ?_; rintro e w' ⟨rfl, hw'⟩; rw [hw']; clear hw'))
              go_region
              go_wp2_with fail
              refine bodyPost_ret (v := .tuple #[.agg #[.int .i64 0, .slice none 0 0], .iface 159 (.pointer (some (a 1)))]) (by simp [results, Tryz.results58, go_sem, z0, z1]) rfl ⟨Or.inr ⟨hff, rfl⟩, ?_⟩
              exact ((HI.out.below.setCell (by simp) _).setCell (by simp) _).drew
            by_cases hq0 : q = 0
            · subst hq0
              go_wp2_with (first
                | (at_lookup; go_must (refine wpList_lookup_own_int _ rfl _ _ 81 rfl 3 3 .i64 Tryz.lawInt Tryz.underlying81 Tryz.underlying3 (Tryz.zeroInt _) b nn D rfl HI.out.own _ _ rfl HKEY.out ?_; intro c hat hwc; have hcc := coef_of HAT.out hat; clear hat hwc; subst hcc))
                | (go_at_call 72; refine (size_any _ _ (by omega) (by omega)).mono ?_; rintro e w' ⟨rfl, hw'⟩; rw [hw']; clear hw'))
              exact ⟨⟨k + 1, sv, by omega, by go_num, all_next htake.out HAL.out (by rw [← HQQ.out]; omega), by
                show InOut _ _ _ _ _ _
                rw [htake.out, termsOf_append, countOf_append]
                have h0 : quo cf G p = 0 := HQQ.out.symm
                simpa [termsOf, countOf, h0] using HO.out⟩, by simp [intOf]; omega⟩
            · have hqn : (q != 0) = true := by simp [hq0]
              have HQ0 : Hid (¬ q = 0) := hq0
              clear hq0
              have hcn := countOf_le (quo cf G) (ks.take k)
              have hcn2 : countOf (quo cf G) (ks.take k) ≤ 100000 := by have := List.length_take_le k ks; omega
              have HSZ : Hid (w1.heap.size < wr.heap.size) := cell_lt HO.out.o0
              have hsz := HSZ.out
              go_wp2_with (first
                | (at_lookup; go_must (refine wpList_lookup_own_int _ rfl _ _ 81 rfl 3 3 .i64 Tryz.lawInt Tryz.underlying81 Tryz.underlying3 (Tryz.zeroInt _) b nn D rfl HI.out.own _ _ rfl HKEY.out ?_; intro c hat hwc; have hcc := coef_of HAT.out hat; clear hat hwc; subst hcc))
                | (go_at_call 72; refine (size_any _ _ (by omega) (by omega)).mono ?_; rintro e w' ⟨rfl, hw'⟩; rw [hw']; clear hw')
                | (at_builtin; go_must (refine wpList_append_lies _ rfl _ _ _ rfl (w1.heap.size + 1) 43 i0 _ 2 16 Tryz.underlying26 HINF.out.1 HINF.out.2.1 HINF.out.2.2.1 HINF.out.2.2.2 rfl (by omega) sv _ _ rfl (HO.out.row.alloc _) ⟨wr.heap.size, 0, none⟩ 1 1 [.int .i64 p, .int .i64 q] rfl rfl (two_new _ _ _ _) (by simp [Value.oneCell']) (by omega) (by unfold maxLen; omega) (by omega) (by simp; omega) _ rfl ?_; intro g' cap' w3 hown3 hgrow3 hat3 hlt3; obtain ⟨z1, z2, HP3⟩ := HO.out.pushed hgrow3 hown3; have HPU := Hid.mk' HP3; clear hown3 hgrow3 hat3 HP3)))
              exact ⟨⟨k + 1, _, by omega, by go_num, all_next htake.out HAL.out (by rw [← HQQ.out]; omega), by
                show InOut _ _ _ _ _ _
                rw [htake.out, termsOf_append, countOf_append]
                have h0 : quo cf G p = q := HQQ.out.symm
                have h1 : ¬ q = 0 := HQ0.out
                simpa [termsOf, countOf, h0, h1] using HPU.out⟩, by simp [intOf]; omega⟩
          · obtain rfl : k = ks.length := by omega
            have z0 := HI.out.res0
            have z1 := HI.out.res1
            have f0 := HI.out.fr0
            have f1 := HI.out.fr1
            have hlt1 : w.heap.size + 1 < w1.heap.size := by have := HIN.out.big; omega
            have hfull : ks.take ks.length = ks := List.take_length
            have HOO : Hid (InOut w1 wr (den / (G : Int)) sv (countOf (quo cf G) ks) (termsOf (quo cf G) ks)) := by have := HO.out; rwa [hfull] at this
            have HFT : Hid (fit = true) := HFIT.out.2 ⟨hdq, by have := HAL.out; rwa [hfull] at this⟩
            clear hfull HO
            obtain ⟨ad, n', c', rfl⟩ : ∃ ad n' c', sv = .slice ad n' c' := by
              rcases HOO.out.row.2 with ⟨rfl, _⟩ | ⟨gg, cap', cur', rfl, _⟩
              · exact ⟨_, _, _, rfl⟩
              · exact ⟨_, _, _, rfl⟩
            go_wp2_with fail
            refine bodyPost_ret (v := .tuple #[.agg #[.int .i64 (den / (G : Int)), .slice ad n' c'], .nilIface]) (by simp [results, Tryz.results58, go_sem, z0, z1]) rfl ⟨Or.inl ⟨HFT.out, .slice ad n' c', rfl, ?_⟩, ?_⟩
            · have h1 := ownsRow_setCell_below HOO.out.row (a := ⟨w.heap.size + 1, 0, none⟩) (by show w.heap.size + 1 < _; omega) (.int .i64 (den / (G : Int)))
              have h2 := ownsRow_setCell_below h1 (a := ⟨w.heap.size + 1, 1, none⟩) (by show w.heap.size + 1 < _; omega) (.slice ad n' c')
              exact row_base h2 (by omega)
            · exact (HI.out.below.setCell (by simp) _).setCell (by simp) _
end Go.Proofs.YtfnmpkkfdljgcaaGreatDoor

/- logs.Add in general: ErrShape, ErrBound, or the sum in form. -/
namespace Go.Proofs.YtfnmpkkfdljgcaaGreatDoor
open Go.RowKit Go.Maps

theorem some_bool (P : Prop) : ∃ b : Bool, b = true ↔ P := by
  by_cases h : P
  · exact ⟨true, ⟨fun _ => h, fun _ => rfl⟩⟩
  · exact ⟨false, ⟨(fun e => by cases e), (fun e => absurd e h)⟩⟩
/-- Has a sum a form? -/
def Fits (den : Int) (G : Nat) (l : List (Int × Int)) : Prop := den / (G : Int) ≤ 1000000 ∧ ∀ e ∈ l, (e.2.tdiv (G : Int)).natAbs ≤ 1099511627776
/-- told by lists, in general. -/
theorem told_list_any (den : Int) (b nn : Nat) (l : List (Int × Int)) (w : World) (hown : w.ownsMap Tryz.prog 3 (plainElem (H := Unit) Tryz.prog 3) b nn (mapOf l)) (hr : Rising l) (hk : ∀ e ∈ l, 2 ≤ e.1 ∧ e.1 ≤ 1000000) (hlen : l.length ≤ 100000)
    (hb : ∀ x, -2305843009213693952 ≤ atL l x ∧ atL l x ≤ 2305843009213693952) (hd1 : 1 ≤ den) (hd2 : den ≤ 1000000000000) (G : Nat) (hG : gcdL den (atL l) (l.map Prod.fst) l.length = G) (a : Nat → Addr) (hE : Errs w a) (fit : Bool) (hfit : fit = true ↔ Fits den G l) :
    Calls Tryz.prog 58 #[.agg #[.int .i64 den, .map (some b)]] w fun e w' => ((fit = true ∧ ∃ v, e = .returned (.tuple #[.agg #[.int .i64 (den / (G : Int)), v], .nilIface]) ∧ w'.ownsRow w.heap.size 43 2 v (overL G l).length (termCells (pOf (overL G l)) (cOf (overL G l)) (overL G l).length)) ∨ (fit = false ∧ e = .returned (.tuple #[.agg #[.int .i64 0, .slice none 0 0], .iface 159 (.pointer (some (a 1)))]))) ∧ Below w.heap.size w w' := by
  have hcf : ∀ e ∈ l, atL l e.1 = e.2 := fun e he => atL_mem hr he
  have ht := terms_flat (atL l) G l hcf
  have hfit' : fit = true ↔ (den / (G : Int) ≤ 1000000 ∧ ∀ x ∈ l.map Prod.fst, (quo (atL l) G x).natAbs ≤ 1099511627776) := hfit.trans ⟨fun h => ⟨h.1, fun x hx => by obtain ⟨e, he, rfl⟩ := List.mem_map.1 hx; unfold quo; rw [hcf e he]; exact h.2 e he⟩, fun h => ⟨h.1, fun e he => by have := h.2 e.1 (List.mem_map.2 ⟨e, he, rfl⟩); unfold quo at this; rw [hcf e he] at this; exact this⟩⟩
  have := told_any den b nn (mapOf l) (atL l) (l.map Prod.fst) w hown (at_map l) (sort_keys hr) (by rw [size_map]; exact hlen) (by rw [List.length_map]; exact hlen)
    (fun x hx => by obtain ⟨e, he, rfl⟩ := List.mem_map.1 hx; have := hk e he; exact wf_int (by omega)) hd1 hd2 hb G (by rw [List.length_map]; exact hG) a hE fit hfit'
  rw [ht.1, ht.2, flat_cells] at this
  exact this

/-- Two boxes and a result. -/
theorem three_cells (w : World) (x0 x1 y0 y1 r0 r1 : Value) (t : TypeId) :
    ((((w.alloc (.cells #[x0, x1] t)).alloc (.cells #[y0, y1] t)).alloc (.cells #[r0, r1] t)).cell? ⟨w.heap.size, 0, none⟩ = some x0 ∧ (((w.alloc (.cells #[x0, x1] t)).alloc (.cells #[y0, y1] t)).alloc (.cells #[r0, r1] t)).cell? ⟨w.heap.size, 1, none⟩ = some x1) ∧ ((((w.alloc (.cells #[x0, x1] t)).alloc (.cells #[y0, y1] t)).alloc (.cells #[r0, r1] t)).cell? ⟨w.heap.size + 1, 0, none⟩ = some y0 ∧ (((w.alloc (.cells #[x0, x1] t)).alloc (.cells #[y0, y1] t)).alloc (.cells #[r0, r1] t)).cell? ⟨w.heap.size + 1, 1, none⟩ = some y1) ∧ ((((w.alloc (.cells #[x0, x1] t)).alloc (.cells #[y0, y1] t)).alloc (.cells #[r0, r1] t)).cell? ⟨w.heap.size + 1 + 1, 0, none⟩ = some r0 ∧ (((w.alloc (.cells #[x0, x1] t)).alloc (.cells #[y0, y1] t)).alloc (.cells #[r0, r1] t)).cell? ⟨w.heap.size + 1 + 1, 1, none⟩ = some r1) ∧ (((w.alloc (.cells #[x0, x1] t)).alloc (.cells #[y0, y1] t)).alloc (.cells #[r0, r1] t)).frozen? ⟨w.heap.size + 1 + 1, 0, none⟩ = false ∧ (((w.alloc (.cells #[x0, x1] t)).alloc (.cells #[y0, y1] t)).alloc (.cells #[r0, r1] t)).frozen? ⟨w.heap.size + 1 + 1, 1, none⟩ = false := by
  refine ⟨⟨?_, ?_⟩, ⟨?_, ?_⟩, ⟨?_, ?_⟩, frozen_new (by simp), frozen_new (by simp)⟩
  · rw [World.cell?_alloc_lt _ _ ⟨w.heap.size, 0, none⟩ (by simp; omega), World.cell?_alloc_lt _ _ ⟨w.heap.size, 0, none⟩ (by simp), World.cell?_alloc_at _ _ _ _ rfl]; rfl
  · rw [World.cell?_alloc_lt _ _ ⟨w.heap.size, 1, none⟩ (by simp; omega), World.cell?_alloc_lt _ _ ⟨w.heap.size, 1, none⟩ (by simp), World.cell?_alloc_at _ _ _ _ rfl]; rfl
  · rw [World.cell?_alloc_lt _ _ ⟨w.heap.size + 1, 0, none⟩ (by simp), World.cell?_alloc_at _ _ _ _ (by simp)]; rfl
  · rw [World.cell?_alloc_lt _ _ ⟨w.heap.size + 1, 1, none⟩ (by simp), World.cell?_alloc_at _ _ _ _ (by simp)]; rfl
  · rw [World.cell?_alloc_at _ _ _ _ (by simp)]; rfl
  · rw [World.cell?_alloc_at _ _ _ _ (by simp)]; rfl

end Go.Proofs.YtfnmpkkfdljgcaaGreatDoor

/- Two lists that tell the same; the document's sum of two in form. -/
namespace Go.Proofs.YtfnmpkkfdljgcaaGreatDoor
open Go.RowKit

def nzL (l : List (Int × Int)) : List (Int × Int) := l.filter fun e => !decide (e.2 = 0)
theorem nz_rise {l : List (Int × Int)} (h : Rising l) : Rising (nzL l) := List.Pairwise.filter _ h
theorem nz_nz {l : List (Int × Int)} : ∀ e ∈ nzL l, e.2 ≠ 0 := fun e he => by
  have := (List.mem_filter.1 he).2
  simpa using this
theorem nz_at {l : List (Int × Int)} (h : Rising l) (x : Int) : atL (nzL l) x = atL l x := by
  by_cases h0 : atL l x = 0
  · rw [h0]
    by_cases h1 : atL (nzL l) x = 0
    · exact h1
    · have h2 := (List.mem_filter.1 (atL_some h1)).1
      have h3 := atL_mem h h2
      simp only at h3
      exact h3.symm.trans h0
  · exact atL_mem (nz_rise h) (List.mem_filter.2 ⟨atL_some h0, by simpa using h0⟩)
theorem nz_same {l l' : List (Int × Int)} (h : Rising l) (h' : Rising l') (he : ∀ x, atL l x = atL l' x) : nzL l = nzL l' := rising_ext (nz_rise h) (nz_rise h') nz_nz nz_nz (fun x => by rw [nz_at h, nz_at h', he])
theorem nz_snd (l : List (Int × Int)) : (nzL l).map Prod.snd = (l.map Prod.snd).filter fun x => !decide (x = 0) := by
  unfold nzL
  rw [List.filter_map]
  rfl
theorem gList_same {l l' : List (Int × Int)} (h : Rising l) (h' : Rising l') (he : ∀ x, atL l x = atL l' x) (g : Nat) : gList g (l.map Prod.snd) = gList g (l'.map Prod.snd) := by
  rw [← gList_zeros, ← gList_zeros (l'.map Prod.snd), ← nz_snd, ← nz_snd, nz_same h h' he]
theorem over_same {l l' : List (Int × Int)} (h : Rising l) (h' : Rising l') (he : ∀ x, atL l x = atL l' x) (G : Nat) : overL G l = overL G l' := rising_ext (rising_over h G) (rising_over h' G) (fun e he => over_nz he) (fun e he => over_nz he) (fun x => by rw [atL_over h, atL_over h', he])
theorem fits_same {l l' : List (Int × Int)} (h' : Rising l') (he : ∀ x, atL l x = atL l' x) {M G : Nat} (hf : FitsL M G l) : FitsL M G l' := by
  refine ⟨hf.1, fun e hm => ?_⟩
  by_cases h0 : e.2 = 0
  · rw [h0]; simp
  · have h1 := atL_mem h' hm
    have h2 := he e.1
    rw [h1] at h2
    have h3 := hf.2 _ (atL_some (l := l) (x := e.1) (by rw [h2]; exact h0))
    simpa [h2] using h3
theorem gcdL_list {D : Nat} {l : List (Int × Int)} (hr : Rising l) : gcdL (D : Int) (atL l) (l.map Prod.fst) l.length = gList D (l.map Prod.snd) := by
  have h0 : gcdL (D : Int) (atL l) (l.map Prod.fst) l.length = gcdTo (D : Int) (cOf l) l.length := by
    have aux : ∀ k, k ≤ l.length → gcdTo (D : Int) (fun i => atL l ((l.map Prod.fst).getD i 0)) k = gcdTo (D : Int) (cOf l) k := by
      intro k
      induction k with
      | zero => intro _; rfl
      | succ k ih =>
        intro hk
        show Int.gcd (gcdTo (D : Int) (fun i => atL l ((l.map Prod.fst).getD i 0)) k : Int) (atL l ((l.map Prod.fst).getD k 0)) = Int.gcd (gcdTo (D : Int) (cOf l) k : Int) (cOf l k)
        rw [ih (by omega)]
        have : atL l ((l.map Prod.fst).getD k 0) = cOf l k := by rw [getD_fst (by omega)]; exact atL_mem hr (getD_mem (by omega))
        rw [this]
    exact aux _ (Nat.le_refl _)
  rw [h0, gcdTo_list _ _ _ (Nat.le_refl _), List.take_length, Int.natAbs_natCast]
theorem sumAt_list {t : List (Int × Int)} (hr : Rising t) (x : Int) : ∀ k, k ≤ t.length → sumAt (pOf t) (cOf t) x k = atL (t.take k) x
  | 0, _ => by simp [sumAt, atL]
  | k + 1, h => by
    rw [atL_take hr (by omega)]
    show sumAt _ _ _ k + _ = _
    rw [sumAt_list hr x k (by omega)]
    by_cases hx : x = pOf t k
    · rw [if_pos hx, if_pos hx.symm]
    · rw [if_neg hx, if_neg (Ne.symm hx)]
theorem sumAt_all {t : List (Int × Int)} (hr : Rising t) (x : Int) : sumAt (pOf t) (cOf t) x t.length = atL t x := by rw [sumAt_list hr x _ (Nat.le_refl _), List.take_length]
theorem sumAt_le {p c : Nat → Int} {n : Nat} (h : ∀ i, i < n → 0 ≤ p i ∧ -1099511627776 ≤ c i ∧ c i ≤ 1099511627776) (x : Int) : ∀ k, k ≤ n → (sumAt p c x k).natAbs ≤ k * 1099511627776
  | 0, _ => by simp [sumAt]
  | k + 1, hk => by
    have ih := sumAt_le h x k (by omega)
    have h1 := h k (by omega)
    show (sumAt p c x k + if x = p k then c k else 0).natAbs ≤ _
    by_cases hx : x = p k
    · rw [if_pos hx]; omega
    · rw [if_neg hx]; omega
theorem mul_bound {F s : Int} {a b : Nat} (hF : F.natAbs ≤ a) (hs : s.natAbs ≤ b) : (F * s).natAbs ≤ a * b := by rw [Int.natAbs_mul]; exact Nat.mul_le_mul hF hs
theorem okLog_pc {d : Int} {n : Nat} {p c : Nat → Int} (h : OkLog d n p c) : ∀ i, i < n → 0 ≤ p i ∧ -1099511627776 ≤ c i ∧ c i ≤ 1099511627776 := fun i hi => by
  have h1 := (h.2.2.1 i hi).2
  exact ⟨by have := h1.2.2.2.2.1; omega, h1.2.2.1, h1.2.2.2.1⟩
theorem LogAt.listed' {w : World} {sv : Value} {n : Nat} {p c : Nat → Int} (h : LogAt w sv n p c) : ∃ t : List (Int × Int), n = t.length ∧ LogAt w sv t.length (pOf t) (cOf t) := by
  refine ⟨(List.range n).map fun i => (p i, c i), by simp, ?_⟩
  rcases h with ⟨ad, cap, h1, h2⟩ | ⟨b, o, cap, h1, h2, h3⟩
  · exact Or.inl ⟨ad, cap, h1, by simp [h2]⟩
  · refine Or.inr ⟨b, o, cap, by simpa using h1, by simpa using h2, fun i hi => ?_⟩
    have hi' : i < n := by simpa using hi
    have e1 : pOf ((List.range n).map fun i => (p i, c i)) i = p i := by simp [pOf, List.getD, hi']
    have e2 : cOf ((List.range n).map fun i => (p i, c i)) i = c i := by simp [cOf, List.getD, hi']
    rw [e1, e2]
    exact h3 i hi'

/-- The answer of a sum: in form and nil, or nothing and ErrBound. -/
def SaidOf (M : Nat) (l : List (Int × Int)) (a : Nat → Addr) (w : World) (dn : Int) (v er : Value) : Prop := (FitsL M (gList M (l.map Prod.snd)) l ∧ dn = ((M / gList M (l.map Prod.snd) : Nat) : Int) ∧ er = .nilIface ∧ ListAt w v (overL (gList M (l.map Prod.snd)) l)) ∨ (¬ FitsL M (gList M (l.map Prod.snd)) l ∧ dn = 0 ∧ v = .slice none 0 0 ∧ er = .iface 159 (.pointer (some (a 1))))
theorem ToldOf.same {M : Nat} {l l' : List (Int × Int)} (h : Rising l) (h' : Rising l') (he : ∀ x, atL l x = atL l' x) {w : World} {dn : Int} {v : Value} {code : Int} (ht : ToldOf M l w dn v code) : ToldOf M l' w dn v code := by
  have hg := gList_same h h' he M
  have ho := over_same h h' he (gList M (l'.map Prod.snd))
  rcases ht with ⟨h1, h2, h3, h4⟩ | ⟨h1, h2, h3, h4⟩
  · rw [hg] at h1 h2 h4
    rw [ho] at h4
    exact Or.inl ⟨fits_same h' he h1, h2, h3, h4⟩
  · rw [hg] at h1
    exact Or.inr ⟨fun hf => h1 (fits_same h (fun x => (he x).symm) hf), h2, h3, h4⟩
theorem ToldOf.later {M : Nat} {l : List (Int × Int)} {w w' : World} {dn : Int} {v : Value} {code : Int} (ht : ToldOf M l w dn v code) (hb : Below w.heap.size w w') : ToldOf M l w' dn v code := by
  rcases ht with ⟨h1, h2, h3, h4⟩ | h
  · exact Or.inl ⟨h1, h2, h3, OwnAt.later h4 hb⟩
  · exact Or.inr h
theorem SaidOf.later {M : Nat} {l : List (Int × Int)} {a : Nat → Addr} {w w' : World} {dn : Int} {v er : Value} (ht : SaidOf M l a w dn v er) (hb : Below w.heap.size w w') : SaidOf M l a w' dn v er := by
  rcases ht with ⟨h1, h2, h3, h4⟩ | h
  · exact Or.inl ⟨h1, h2, h3, OwnAt.later h4 hb⟩
  · exact Or.inr h

/-- isLog of what both say of one sum. -/
theorem isLog_said (M : Nat) (l : List (Int × Int)) (a : Nat → Addr) (w : World) (h : Errs w a) (hl : l.length ≤ 1000000) (dn1 dn2 code : Int) (ad1 ad2 : Option Addr) (m1 m2 cap1 cap2 : Nat) (er : Value) (h1 : SaidOf M l a w dn1 (.slice ad1 m1 cap1) er) (h2 : ToldOf M l w dn2 (.slice ad2 m2 cap2) code) :
    Calls Tryz.prog 13 #[.agg #[.int .i64 dn1, .slice ad1 m1 cap1], er, .agg #[.int .i64 dn2, .slice ad2 m2 cap2], .int .i64 code] w fun e w' => e = .returned (.bool true) ∧ Below w.heap.size w w' := by
  rcases h1 with ⟨f1, rfl, rfl, l1⟩ | ⟨f1, rfl, v1, rfl⟩
  · rcases h2 with ⟨_, rfl, rfl, l2⟩ | ⟨f2, _⟩
    · exact isLog_ok _ _ _ _ _ _ w l1 l2 (by have := length_over l (gList M (l.map Prod.snd)); omega)
    · exact absurd f1 f2
  · rcases h2 with ⟨f2, _⟩ | ⟨_, rfl, v2, rfl⟩
    · exact absurd f2 f1
    · rw [v1]
      exact isLog_err a 1 (by decide) 0 ad2 m2 cap2 w h
end Go.Proofs.YtfnmpkkfdljgcaaGreatDoor

/- dist.sumOver: a sum of all that a function puts. -/
namespace Go.Proofs.YtfnmpkkfdljgcaaGreatDoor
open Go.RowKit Go.Maps

/-- What is told of a sum that has a form: f over M. -/
def LogBy (base M : Nat) (f : Int → Int) (w : World) (dn : Int) (v : Value) : Prop := ∃ l : List (Int × Int), Rising l ∧ (∀ x, atL l x = f x) ∧ l.length ≤ 90000 ∧ dn = ((M / gList M (l.map Prod.snd) : Nat) : Int) ∧ w.ownsRow base 43 2 v (overL (gList M (l.map Prod.snd)) l).length (termCells (pOf (overL (gList M (l.map Prod.snd)) l)) (cOf (overL (gList M (l.map Prod.snd)) l)) (overL (gList M (l.map Prod.snd)) l).length)
theorem LogBy.form {base M : Nat} {f : Int → Int} {w : World} {dn : Int} {v : Value} (h : LogBy base M f w dn v) : ∃ ad n c, v = .slice ad n c := by
  obtain ⟨l, _, _, _, _, hr⟩ := h
  rcases hr.2 with ⟨rfl, _⟩ | ⟨gg, cap', cur', rfl, _⟩
  · exact ⟨_, _, _, rfl⟩
  · exact ⟨_, _, _, rfl⟩
theorem LogBy.later {base M : Nat} {f : Int → Int} {w w' : World} {dn : Int} {v : Value} (h : LogBy base M f w dn v) (hb : Below w.heap.size w w') : LogBy base M f w' dn v := by
  obtain ⟨l, h1, h2, h3, h5, hr⟩ := h
  exact ⟨l, h1, h2, h3, h5, ownsRow_past hr hb⟩
theorem LogBy.lower {base base' M : Nat} {f : Int → Int} {w : World} {dn : Int} {v : Value} (h : LogBy base M f w dn v) (hb : base' ≤ base) : LogBy base' M f w dn v := by
  obtain ⟨l, h1, h2, h3, h5, hr⟩ := h
  exact ⟨l, h1, h2, h3, h5, row_base hr hb⟩
theorem LogBy.set {base M : Nat} {f : Int → Int} {w : World} {dn : Int} {v : Value} (h : LogBy base M f w dn v) {B : Nat} (hB : B < base) (x y : Value) : LogBy base M f ((w.setCell ⟨B, 0, none⟩ x).setCell ⟨B, 1, none⟩ y) dn v := by
  obtain ⟨l, h1, h2, h3, h5, hr⟩ := h
  exact ⟨l, h1, h2, h3, h5, ownsRow_setCell_below (ownsRow_setCell_below hr (a := ⟨B, 0, none⟩) hB x) (a := ⟨B, 1, none⟩) hB y⟩
theorem LogBy.list {base M : Nat} {f : Int → Int} {w : World} {dn : Int} {v : Value} (h : LogBy base M f w dn v) : ∃ l : List (Int × Int), Rising l ∧ (∀ x, atL l x = f x) ∧ l.length ≤ 90000 ∧ dn = ((M / gList M (l.map Prod.snd) : Nat) : Int) ∧ ListAt w v (overL (gList M (l.map Prod.snd)) l) := by
  obtain ⟨l, h1, h2, h3, h5, hr⟩ := h
  exact ⟨l, h1, h2, h3, h5, ownAt_of_row hr⟩

set_option maxRecDepth 100000 in
set_option maxHeartbeats 2000000 in
theorem sumOver_any (K : Nat) (cap : Array Value) (M c : Nat) (f : Int → Int) (w : World) (hent : ∀ (args : Array Value) (w : World), (callFunc K args).run Tryz.prog w = .ok (.enter K args) w) (hM : 1 ≤ M) (hM6 : M ≤ 4096) (hc : c ≤ 4000) (hf : ∀ x, -1000000000 ≤ f x ∧ f x ≤ 1000000000)
    (hp : ∀ (W : World) (mb : Nat), Below w.heap.size w W → W.ownsMap Tryz.prog 3 (plainElem (H := Unit) Tryz.prog 3) mb 0 (mapOf []) → Calls Tryz.prog K (#[putV M mb] ++ cap) W fun e w' => e = .returned (.tuple #[]) ∧ ∃ l nn, Puts W w' mb f c [] 0 l nn) :
    Calls Tryz.prog 26 #[.int .i64 M, .func (.func K) #[] cap] w fun e w' => ∃ dn v, e = .returned (.tuple #[.agg #[.int .i64 dn, v], .nilIface]) ∧ LogBy w.heap.size M f w' dn v ∧ Below w.heap.size w w' := by
  obtain ⟨W0, hW0⟩ : ∃ W0, W0 = w.alloc (.cells #[.int .i64 0, .slice none 0 0] 28) := ⟨_, rfl⟩
  have hb0 : Below w.heap.size w W0 := by rw [hW0]; exact new_below _ _
  have hres : ∀ W, Below W0.heap.size W0 W → W.cell? ⟨w.heap.size, 0, none⟩ = some (.int .i64 0) ∧ W.cell? ⟨w.heap.size, 1, none⟩ = some (.slice none 0 0) ∧ W.frozen? ⟨w.heap.size, 0, none⟩ = false ∧ W.frozen? ⟨w.heap.size, 1, none⟩ = false := fun W hb => by
    rw [hW0] at hb
    obtain ⟨q0, q1, q2, q3⟩ := res_past hb
    exact ⟨q0, q1, q2, q3⟩
  have hsz : W0.heap.size = w.heap.size + 1 := by rw [hW0]; simp
  have hov := newSum_any (M : Int) W0
  have HP := Hid.mk' hp
  have HF := Hid.mk' hf
  have HB0 := Hid.mk' hb0
  have HRES := Hid.mk' hres
  have HW0 := Hid.mk' hW0
  have HSZ := Hid.mk' hsz
  clear hp hf hb0 hres hW0 hsz
  go_enter Tryz.func26, Tryz.ntmps26
  go_wp2_with fail
  rw [← HW0.out]
  refine hov.mono ?_
  clear hov
  rintro e w1 ⟨rfl, hown1, hb1⟩
  have HB1 := Hid.mk' hb1
  have ho1 : (w1.alloc (.cells #[.int .i64 M, .map (some (W0.heap.size + 1))] 83)).ownsMap Tryz.prog 3 (plainElem (H := Unit) Tryz.prog 3) (W0.heap.size + 1) 0 (mapOf []) := ownsMap_later hown1 (Below.heap_alloc _ _ _ hown1.lt)
  have HX1 : Hid (w1.cell? ⟨W0.heap.size + 1, 0, none⟩ = none) := map_no_cell hown1
  have hlt1 := hown1.lt
  obtain ⟨W1, hW1⟩ : ∃ W1, W1 = w1.alloc (.cells #[.int .i64 M, .map (some (W0.heap.size + 1))] 83) := ⟨_, rfl⟩
  have hs0 : W1.cell? ⟨w1.heap.size, 0, none⟩ = some (.int .i64 M) := by rw [hW1]; simp
  have hs1 : W1.cell? ⟨w1.heap.size, 1, none⟩ = some (.map (some (W0.heap.size + 1))) := by rw [hW1]; simp
  have HB2 : Hid (Below W0.heap.size W0 W1) := by rw [hW1]; exact below_chain hb1 (new_below _ _)
  rw [← hW1] at ho1
  have HO1 := Hid.mk' ho1
  have HS := Hid.mk' (And.intro hs0 hs1)
  have HW1 := Hid.mk' hW1
  have HLT := Hid.mk' hlt1
  clear hown1 hb1 ho1 hs0 hs1 hW1 hlt1
  go_upto_region 2 with fail
  rw [← HW1.out]
  obtain ⟨hs0, hs1⟩ := HS.out
  have hcall := HP.out W1 (W0.heap.size + 1) (below_chain HB0.out HB2.out) HO1.out
  unfold putV at hcall
  clear HP
  go_wp2_with fail
  refine hcall.mono ?_
  clear hcall hs0 hs1
  rintro e w2 ⟨rfl, l, nn, hpt⟩
  have hne : w1.heap.size ≠ W0.heap.size + 1 := by have := HLT.out; omega
  have hs0 := cell_beside hpt.grow HS.out.1 hne
  have hs1 := cell_beside hpt.grow HS.out.2 hne
  have hz1 := HB2.out.size
  have hlw : w.heap.size < W0.heap.size := by have := HSZ.out; omega
  have HB3 : Hid (Below W0.heap.size W0 w2) := HB2.out.grown hpt.grow HB2.out.size (fun k e => by cases e; omega)
  have hval : ∀ x, atL l x = f x := fun x => by have := hpt.val x; simpa [atL] using this
  have hlen : l.length ≤ 90000 := by have := hpt.len; simp at this; omega
  have hG := gcdL_list (D := M) hpt.rise
  have hfit : ∀ e ∈ l, (e.2.tdiv (gList M (l.map Prod.snd) : Int)).natAbs ≤ 1099511627776 := fun e he => by
    have h1 := HF.out e.1
    rw [← hval, atL_mem hpt.rise he] at h1
    rw [Int.natAbs_tdiv]
    exact Nat.le_trans (Nat.div_le_self _ _) (by omega)
  have ht := told_list (M : Int) (W0.heap.size + 1) nn l w2 hpt.own hpt.rise hpt.keys (by omega) (fun x => by rw [hval]; have := HF.out x; omega) (by omega) (by omega) _ hG (by rw [← Int.natCast_ediv]; exact Int.le_trans (Int.ofNat_le.2 (Nat.div_le_self _ _)) (by omega)) hfit
  have HLB : Hid (Rising l ∧ (∀ x, atL l x = f x) ∧ l.length ≤ 90000) := ⟨hpt.rise, hval, hlen⟩
  have HLW := Hid.mk' hlw
  clear hpt hval hlen hG hfit HF hz1 hlw HS HO1 HW1
  go_wp2_with fail
  refine ht.mono ?_
  clear ht hs0 hs1
  rintro e w3 ⟨v, rfl, hrow, hb3⟩
  obtain ⟨c0, c1, q0, q1⟩ := HRES.out w3 (below_chain HB3.out hb3)
  have HBW := Hid.mk' (below_chain HB0.out (below_chain HB3.out hb3))
  have HZ : Hid (w.heap.size < w2.heap.size) := by have h1 := HLW.out; have h2 := HB3.out.size; show _ < _; omega
  have HROW := Hid.mk' hrow
  obtain ⟨ad, n', c', rfl⟩ : ∃ ad n' c', v = .slice ad n' c' := by
    rcases hrow.2 with ⟨rfl, _⟩ | ⟨gg, cap', cur', rfl, _⟩
    · exact ⟨_, _, _, rfl⟩
    · exact ⟨_, _, _, rfl⟩
  clear hrow hb3 HRES
  go_wp2_with fail
  refine bodyPost_ret (v := .tuple #[.agg #[.int .i64 ((M : Int) / (gList M (l.map Prod.snd) : Int)), .slice ad n' c'], .nilIface]) (by simp [results, Tryz.results26, go_sem, c0, c1]) rfl ⟨_, .slice ad n' c', rfl, ⟨l, HLB.out.1, HLB.out.2.1, HLB.out.2.2, by simp, ?_⟩, ?_⟩
  · have h1 := ownsRow_setCell_below HROW.out (a := ⟨w.heap.size, 0, none⟩) HZ.out (.int .i64 ((M : Int) / (gList M (l.map Prod.snd) : Int)))
    have h2 := ownsRow_setCell_below h1 (a := ⟨w.heap.size, 1, none⟩) HZ.out (.slice ad n' c')
    exact row_base h2 (Nat.le_of_lt HZ.out)
  · exact (HBW.out.setCell (by simp) _).setCell (by simp) _

/-- Two that are told of one sum are the same. -/
theorem isLog_by {M b1 b2 : Nat} {f g : Int → Int} {w : World} {d1 d2 : Int} {v1 v2 : Value} (h1 : LogBy b1 M f w d1 v1) (h2 : LogBy b2 M g w d2 v2) (he : ∀ x, f x = g x) :
    Calls Tryz.prog 13 #[.agg #[.int .i64 d1, v1], .nilIface, .agg #[.int .i64 d2, v2], .int .i64 0] w fun e w' => e = .returned (.bool true) ∧ Below w.heap.size w w' := by
  obtain ⟨l1, r1, a1, n1, rfl, o1⟩ := h1.list
  obtain ⟨l2, r2, a2, n2, rfl, o2⟩ := h2.list
  have hx : ∀ x, atL l1 x = atL l2 x := fun x => by rw [a1, a2, he]
  rw [gList_same r1 r2 hx] at o1 ⊢
  rw [over_same r1 r2 hx] at o1
  exact isLog_ok _ _ _ _ _ _ w o1 o2 (by have := length_over l2 (gList M (l2.map Prod.snd)); omega)
end Go.Proofs.YtfnmpkkfdljgcaaGreatDoor
