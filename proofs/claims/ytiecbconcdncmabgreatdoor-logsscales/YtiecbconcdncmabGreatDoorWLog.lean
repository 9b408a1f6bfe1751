/- (*Wide).Log: a logarithm, so often. -/
import Derived.Test.YtiecbconcdncmabGreatDoorPrimeAny
import Derived.Test.YtiecbconcdncmabGreatDoorNumber
import Derived.Test.YtiecbconcdncmabGreatDoorValidWalk
namespace Go.Proofs.YtiecbconcdncmabGreatDoor
open Go.RowKit

/-- The coefficients of a number among the first k terms. -/
def sumAt (p c : Nat → Int) (x : Int) : Nat → Int
  | 0 => 0
  | k + 1 => sumAt p c x k + if x = p k then c k else 0
theorem LogAt.kept {w w' : World} {sv : Value} {n : Nat} {p c : Nat → Int} (h : LogAt w sv n p c) (hk : IntsKept w w') : LogAt w' sv n p c := by
  rcases h with h | ⟨b, o, cap, h1, h2, h3⟩
  · exact Or.inl h
  · exact Or.inr ⟨b, o, cap, h1, h2, fun k hk' => ⟨hk _ _ (h3 k hk').1, hk _ _ (h3 k hk').2⟩⟩
theorem LogAt.cellsOf {w : World} {ad : Option Addr} {n cap : Nat} {p c : Nat → Int} (h : LogAt w (.slice ad n cap) n p c) {k : Nat} (hk : k < n) : ∃ b o, ad = some ⟨b, o, none⟩ ∧ w.cell? ⟨b, o + k * 2, none⟩ = some (.int .i64 (p k)) ∧ w.cell? ⟨b, o + k * 2 + 1, none⟩ = some (.int .i64 (c k)) := by
  rcases h with ⟨_, _, _, rfl⟩ | ⟨b, o, _, h1, _, h3⟩
  · omega
  · simp only [Value.slice.injEq] at h1
    exact ⟨b, o, h1.1, h3 k hk⟩
theorem WideAt.not_mine' {base M : Nat} {w W : World} {B : Nat} {vp vc : Value} {L : List Ent} (h : WideAt base M w B vp vc L) (hb : Below w.heap.size w W) {k : Nat} (hk : w.heap.size ≤ k) : ¬ Mine B W k := by
  have hB := h.lt
  rintro (h1 | ⟨n, cap, h1⟩)
  · omega
  · rw [(h.later hb).cc] at h1
    have hv := Option.some.inj h1
    subst hv
    rcases h.C.2 with ⟨h2, _⟩ | ⟨g, c, cur, h2, _, h3, _⟩
    · cases h2
    · have h4 : k = g := by injection h2 with h2; injection h2 with h2; injection h2
      have h5 := h.C.lt g (by rw [h2]; rfl)
      omega
/-- A coefficient of a logarithm times a fraction, over M. -/
theorem coef_low {M d xd m : Nat} {xn c : Int} (hM : M = d * xd * m) (hM0 : 0 < M) : (xn * c.tdiv ((Nat.gcd c.natAbs d : Nat) : Int)).tdiv ((Nat.gcd (xn * c.tdiv ((Nat.gcd c.natAbs d : Nat) : Int)).natAbs (xd * (d / Nat.gcd c.natAbs d)) : Nat) : Int) = lowN M (xn * m * c) ∧ xd * (d / Nat.gcd c.natAbs d) / Nat.gcd (xn * c.tdiv ((Nat.gcd c.natAbs d : Nat) : Int)).natAbs (xd * (d / Nat.gcd c.natAbs d)) = lowD M (xn * m * c) := by
  have hd : 0 < d := Nat.pos_of_ne_zero fun h => by rw [h, Nat.zero_mul, Nat.zero_mul] at hM; omega
  have hx : 0 < xd := Nat.pos_of_ne_zero fun h => by rw [h, Nat.mul_zero, Nat.zero_mul] at hM; omega
  obtain ⟨g1, g2, g3, _, _, g6⟩ := low_parts (n := c) hd
  refine low_same hM0 (Nat.mul_pos hx g6) ?_
  have h3 : (d : Int) = ((Nat.gcd c.natAbs d : Nat) : Int) * ((d / Nat.gcd c.natAbs d : Nat) : Int) := by rw [← Int.natCast_mul, ← g3]
  rw [hM, Int.natCast_mul, Int.natCast_mul, Int.natCast_mul]
  generalize Nat.gcd c.natAbs d = g at *
  generalize ((d / g : Nat) : Int) = e at *
  generalize c.tdiv (g : Int) = f at *
  rw [h3]
  conv => rhs; rw [g2]
  grind

/-- What Log keeps: k terms are put. -/
structure InLog (base M B : Nat) (W0 wr : World) (F : Int) (p c : Nat → Int) (L0 : List Ent) (k : Nat) (vp vc : Value) (L : List Ent) : Prop where
  wide : WideAt base M wr B vp vc L
  rise : Rising (absL L)
  val : ∀ x, atL (absL L) x = atL (absL L0) x + F * sumAt p c x k
  len : L.length ≤ L0.length + k
  kept : IntsKept W0 wr
  moved : Moved B W0 wr
  below : Below base W0 wr
theorem InLog.put {base M B : Nat} {W0 wr w1 : World} {F : Int} {p c : Nat → Int} {L0 : List Ent} {k q : Nat} {vp vc vp' vc' : Value} {L L' : List Ent} (h : InLog base M B W0 wr F p c L0 k vp vc L) (hq : p k = (q : Int))
    (hw : WideAt base M w1 B vp' vc' L') (hp : Put (absL L) (absL L') q (F * c k)) (hk : IntsKept wr w1) (hmv : Moved B wr w1) (hb : Below base wr w1) : InLog base M B W0 w1 F p c L0 (k + 1) vp' vc' L' := by
  refine ⟨hw, hp.rise, fun x => ?_, ?_, h.kept.trans hk, h.moved.trans hmv, h.below.trans hb⟩
  · rw [hp.val x, h.val x]
    show _ = _ + F * (sumAt p c x k + if x = p k then c k else 0)
    rw [Int.mul_add, hq]
    by_cases hx : x = (q : Int)
    · rw [if_pos hx, if_pos hx]; omega
    · rw [if_neg hx, if_neg hx, Int.mul_zero]; omega
  · have h1 := hp.len
    have h2 := h.len
    rw [absL_length, absL_length] at h1
    omega
theorem InLog.coef {base M B : Nat} {W0 wr : World} {F : Int} {p c : Nat → Int} {L0 : List Ent} {k E : Nat} {vp vc : Value} {L : List Ent} (h : InLog base M B W0 wr F p c L0 k vp vc L) (hb : ∀ x, (atL (absL L0) x + F * sumAt p c x k).natAbs < E) : ∀ e ∈ L, e.z.natAbs < E := fun e he => by
  have h0 := atL_mem h.rise (absL_mem he)
  simp only at h0
  rw [← h0, h.val]
  exact hb _

set_option maxRecDepth 100000 in
set_option maxHeartbeats 4000000 in
theorem WLog_any (base M B d xd m : Nat) (xn : Int) (cv vp vc : Value) (ad1 : Option Addr) (n cap1 : Nat) (p c : Nat → Int) (L : List Ent) (k0 : Nat) (w : World) (hW : WideAt base M w B vp vc L) (hl : LogAt w (.slice ad1 n cap1) n p c) (hc : RatioAt w cv xn xd) (hM : M = d * xd * m) (hM0 : 0 < M) (hr : Rising (absL L)) (hlen : L.length + n ≤ 1000)
    (hpc : ∀ i, i < n → 0 ≤ p i ∧ -1099511627776 ≤ c i ∧ c i ≤ 1099511627776) (hd : d ≤ 1000000) (hxn : xn.natAbs < 1000000 ^ k0) (hF : ∀ i, i < n → (xn * m * c i).natAbs < 1000000 ^ k0) (hb : ∀ x k, k ≤ n → (atL (absL L) x + xn * m * sumAt p c x k).natAbs < 1000000 ^ k0) (hbM : M < 1000000 ^ k0) (hk3 : 3 ≤ k0) (hk0 : k0 ≤ 1000) :
    Calls Tryz.prog 22 #[.pointer (some ⟨B, 0, none⟩), .agg #[.int .i64 d, .slice ad1 n cap1], cv] w fun e w' => e = .returned (.tuple #[]) ∧ ∃ vp' vc' L', InLog base M B w w' (xn * m) p c L n vp' vc' L' := by
  obtain ⟨s, ad, l, cap, ad', l', cap', rfl⟩ := hc.parts
  have hb0 : Below w.heap.size w ((w.alloc (.cells #[.int .i64 d, .slice ad1 n cap1] 24)).alloc (.cells #[.bool s, .slice ad l cap, .slice ad' l' cap'] 35)) := ((Below.refl _ _).alloc (Nat.le_refl _) _).alloc (by simp) _
  have hnm0 := hW.not_mine' hb0 (Nat.le_refl _)
  have hnm1 := hW.not_mine' hb0 (Nat.le_succ _)
  have hI0 : InLog base M B w ((w.alloc (.cells #[.int .i64 d, .slice ad1 n cap1] 24)).alloc (.cells #[.bool s, .slice ad l cap, .slice ad' l' cap'] 35)) (xn * m) p c L 0 vp vc L :=
    ⟨hW.later hb0, hr, fun x => by simp [sumAt], Nat.le_refl _, IntsKept.of_below hb0, Moved.of_below hb0 hW.lt, hb0.mono (by have := hW.hB; have := hW.lt; omega)⟩
  have HC : Hid (∀ wr, Moved B ((w.alloc (.cells #[.int .i64 d, .slice ad1 n cap1] 24)).alloc (.cells #[.bool s, .slice ad l cap, .slice ad' l' cap'] 35)) wr → (wr.cell? ⟨w.heap.size, 0, none⟩ = some (.int .i64 d) ∧ wr.cell? ⟨w.heap.size, 1, none⟩ = some (.slice ad1 n cap1)) ∧ wr.cell? ⟨w.heap.size + 1, 0, none⟩ = some (.bool s) ∧ wr.cell? ⟨w.heap.size + 1, 1, none⟩ = some (.slice ad l cap) ∧ wr.cell? ⟨w.heap.size + 1, 2, none⟩ = some (.slice ad' l' cap')) := fun wr hm => by
    refine ⟨⟨?_, ?_⟩, ?_, ?_, ?_⟩
    · rw [hm.cell (by simp; omega) hnm0]; simp
    · rw [hm.cell (by simp; omega) hnm0]; simp
    · rw [hm.cell (by simp) hnm1]; simp
    · rw [hm.cell (by simp) hnm1]; simp
    · rw [hm.cell (by simp) hnm1]; simp
  obtain ⟨W0, hW0⟩ : ∃ W0, W0 = (w.alloc (.cells #[.int .i64 d, .slice ad1 n cap1] 24)).alloc (.cells #[.bool s, .slice ad l cap, .slice ad' l' cap'] 35) := ⟨_, rfl⟩
  rw [← hW0] at hI0 HC
  have HL := Hid.mk' hl
  have HRA := Hid.mk' hc
  have HW0 := Hid.mk' hW0
  have HM0 : Hid (Moved B W0 W0) := Moved.refl _ _
  have HI0 := Hid.mk' hI0
  have HPC := Hid.mk' hpc
  have HF := Hid.mk' hF
  have HB := Hid.mk' hb
  have HMM := Hid.mk' hM
  have hd0 : 0 < d := Nat.pos_of_ne_zero fun h => by rw [h, Nat.zero_mul, Nat.zero_mul] at hM; omega
  have hx0 : 0 < xd := Nat.pos_of_ne_zero fun h => by rw [h, Nat.mul_zero, Nat.zero_mul] at hM; omega
  have hm0 : 0 < m := Nat.pos_of_ne_zero fun h => by rw [h, Nat.mul_zero] at hM; omega
  have hxd : xd < 1000000 ^ k0 := Nat.lt_of_le_of_lt (by rw [hM, Nat.mul_comm d xd, Nat.mul_assoc]; exact Nat.le_mul_of_pos_right _ (Nat.mul_pos hd0 hm0)) hbM
  have hp3 : 1000000000000000000 ≤ 1000000 ^ k0 := by
    have h1 : (1000000 : Nat) ^ 3 ≤ 1000000 ^ k0 := Nat.pow_le_pow_right (by decide) hk3
    omega
  have HXD := Hid.mk' (And.intro hxd hp3)
  clear hW hc hr hb hb0 hnm0 hnm1 hI0 hW0 hl hpc hF hM hxd hp3
  go_enter Tryz.func22, Tryz.ntmps22
  go_wp2_with fail
  rw [← HW0.out]
  go_loopw [6] (fun t wr => ∃ (k : Nat) (vp1 vc1 : Value) (L1 : List Ent), k ≤ n ∧ t = .int .i64 k ∧ Hid (InLog base M B w wr (xn * m) p c L k vp1 vc1 L1) ∧ Hid (Moved B W0 wr)) (fun t _ => n - (intOf t).toNat)
  case atStart => exact ⟨0, vp, vc, L, by omega, rfl, HI0, HM0⟩
  case round =>
    clear HI0 HM0
    obtain ⟨k, vp1, vc1, L1, hk, rfl, HI, HMV⟩ := hrel
    obtain ⟨⟨a0, a1⟩, b0, b1, b2⟩ := HC.out wr HMV.out
    have hkI0 : (0 : Int) ≤ (k : Int) := by omega
    by_cases hlt : k < n
    · have hkI : (k : Int) < (n : Int) := by omega
      obtain ⟨b, o, rfl, e0, e1⟩ := LogAt.cellsOf (HL.out.kept HI.out.kept) hlt
      obtain ⟨hp0, hc1, hc2⟩ := HPC.out k hlt
      obtain ⟨q, hq⟩ := Int.eq_ofNat_of_zero_le hp0
      rw [hq] at e0
      have HQ := Hid.mk' hq
      have hBw := HI.out.wide.lt
      have HKM : Hid (∀ W, IntsKept wr W → Moved B wr W → (W.cell? ⟨w.heap.size, 0, none⟩ = some (.int .i64 d) ∧ W.cell? ⟨w.heap.size, 1, none⟩ = some (.slice (some ⟨b, o, none⟩) n cap1)) ∧ (W.cell? ⟨w.heap.size + 1, 0, none⟩ = some (.bool s) ∧ W.cell? ⟨w.heap.size + 1, 1, none⟩ = some (.slice ad l cap) ∧ W.cell? ⟨w.heap.size + 1, 2, none⟩ = some (.slice ad' l' cap')) ∧ W.cell? ⟨b, o + k * 2, none⟩ = some (.int .i64 (q : Int)) ∧ W.cell? ⟨b, o + k * 2 + 1, none⟩ = some (.int .i64 (c k))) := fun W hk' hm' => by
        obtain ⟨x1, x2⟩ := HC.out W (HMV.out.trans hm')
        exact ⟨x1, x2, hk' _ _ e0, hk' _ _ e1⟩
      have HKS := Hid.mk' (fun (W : World) (hb : Below wr.heap.size wr W) => HKM.out W (IntsKept.of_below hb) (Moved.of_below hb hBw))
      have hlow := coef_low (xn := xn) (c := c k) HMM.out hM0
      have hcg : ((c k).tdiv ((Nat.gcd (c k).natAbs d : Nat) : Int)).natAbs ≤ (c k).natAbs := by rw [Int.natAbs_tdiv]; exact Nat.div_le_self _ _
      have hdg : 0 < d / Nat.gcd (c k).natAbs d := (low_parts (n := c k) hd0).2.2.2.2.2
      have hdl : d / Nat.gcd (c k).natAbs d ≤ d := Nat.div_le_self _ _
      have HTI : Hid (∀ (W : World) (r : Value), IntsKept w W → RatioAt W r ((c k).tdiv ((Nat.gcd (c k).natAbs d : Nat) : Int)) (d / Nat.gcd (c k).natAbs d) → Calls Tryz.prog 41 #[.agg #[.bool s, .slice ad l cap, .slice ad' l' cap'], r] W fun e w' => ∃ r', e = .returned r' ∧ RatioAt w' r' (lowN M (xn * m * c k)) (lowD M (xn * m * c k)) ∧ Below W.heap.size W w') := fun W r hk' hr' => by
        have h4 := Times_ratio _ _ _ _ _ _ k0 W (HRA.out.kept hk') hr' hx0 hdg hxn (by have := HXD.out.2; omega) HXD.out.1 (by have := HXD.out.2; omega) (by omega)
        rw [hlow.1, hlow.2] at h4
        exact h4
      have HPR : Hid (∀ (W : World) (r : Value), Below wr.heap.size wr W → RatioAt W r (lowN M (xn * m * c k)) (lowD M (xn * m * c k)) → Calls Tryz.prog 37 #[.pointer (some ⟨B, 0, none⟩), .int .i64 q, r] W fun e w' => e = .returned (.tuple #[]) ∧ (∃ vp' vc' L', InLog base M B w w' (xn * m) p c L (k + 1) vp' vc' L') ∧ IntsKept wr w' ∧ Moved B wr w') := fun W r hb' hr' => by
        refine (Prime_any base M B q (xn * m * c k) r vp1 vc1 L1 k0 W (HI.out.wide.later hb') hr' hM0 HI.out.rise (by have := HI.out.len; omega) (HF.out k hlt) (HI.out.coef (fun x => HB.out x k (by omega))) hbM hk0).mono ?_
        rintro e w' ⟨rfl, vp', vc', L', q1, q2, q3, q4, q5⟩
        have k1 := (IntsKept.of_below hb').trans q3
        have k2 := (Moved.of_below hb' hBw).trans q4
        exact ⟨rfl, ⟨vp', vc', L', HI.out.put HQ.out q1 q2 k1 k2 ((hb'.mono (by have := HI.out.wide.hB; omega)).trans q5)⟩, k1, k2⟩
      have hcur : Below wr.heap.size wr wr.drew := (Below.refl _ _).drew
      have hcur0 : Below wr.heap.size wr wr := Below.refl _ _
      have HKW := Hid.mk' HI.out.kept
      clear hq hp0 hlow hcg hdg hdl HI HF HB
      go_wp2_with fail
      clear a0 a1 b0 b1 b2 e0 e1
      go_region_held3 (fun W => (W.cell? ⟨w.heap.size, 0, none⟩ = some (.int .i64 d) ∧ W.cell? ⟨w.heap.size, 1, none⟩ = some (.slice (some ⟨b, o, none⟩) n cap1)) ∧ (W.cell? ⟨w.heap.size + 1, 0, none⟩ = some (.bool s) ∧ W.cell? ⟨w.heap.size + 1, 1, none⟩ = some (.slice ad l cap) ∧ W.cell? ⟨w.heap.size + 1, 2, none⟩ = some (.slice ad' l' cap')) ∧ W.cell? ⟨b, o + k * 2, none⟩ = some (.int .i64 (q : Int)) ∧ W.cell? ⟨b, o + k * 2 + 1, none⟩ = some (.int .i64 (c k)))
        (first | exact HKS.out _ hcur0 | exact HKS.out _ hcur | exact HKS.out _ hbw1 | exact HKS.out _ hbw2 | exact HKM.out _ k3 m3)
        (first
          | (go_at_call 37; refine (HPR.out _ _ hbw2 HR2.out).mono ?_; rintro e w3 ⟨rfl, h3, k3, m3⟩; have H3 := Hid.mk' h3; clear h3)
          | (go_at_call 41; refine (HTI.out _ _ (HKW.out.trans (IntsKept.of_below hbw1)) HR1.out).mono ?_; rintro e w2 ⟨r2, rfl, hr2, hb2⟩; have hbw2 := below_chain hbw1 hb2; have HR2 := Hid.mk' hr2; clear hr2 hb2)
          | (go_at_call 24; refine (RatioOf_any (c k) d _ (by omega) (by omega) hd0 (by omega)).mono ?_; rintro e w1 ⟨r1, rfl, hr1, hb1⟩; have hbw1 := below_chain hcur hb1; have HR1 := Hid.mk' hr1; clear hr1 hb1))
      obtain ⟨vp3, vc3, L3, h3⟩ := H3.out
      have HI3 := Hid.mk' h3
      have HM3 := Hid.mk' (HMV.out.trans m3)
      clear h3 k3 m3 H3
      go_wp2_with fail
      exact ⟨⟨k + 1, _, _, _, by omega, by go_num, HI3, HM3⟩, by simp [intOf]; omega⟩
    · obtain rfl : k = n := by omega
      go_wp2_with fail
      go_end0
      exact ⟨rfl, _, _, _, HI.out⟩
end Go.Proofs.YtiecbconcdncmabGreatDoor
