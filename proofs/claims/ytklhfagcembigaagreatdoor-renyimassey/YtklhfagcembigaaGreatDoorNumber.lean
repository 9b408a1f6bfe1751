/- (*Wide).Number: the logarithm of a number, so often. -/
import Derived.Test.YtklhfagcembigaaGreatDoorPrimeAny
import Derived.Test.YtklhfagcembigaaGreatDoorPutF
namespace Go.Proofs.YtklhfagcembigaaGreatDoor
open Go.RowKit

theorem absL_length (L : List Ent) : (absL L).length = L.length := by unfold absL; simp
theorem absL_mem {L : List Ent} {e : Ent} (h : e ∈ L) : ((e.p : Int), e.z) ∈ absL L := List.mem_map.2 ⟨e, h, rfl⟩

/-- What Number keeps: n is left, k factors are put. -/
structure InNum (base M B : Nat) (W0 wr : World) (z : Int) (L0 : List Ent) (n0 n k : Nat) (vp vc : Value) (L : List Ent) : Prop where
  wide : WideAt base M wr B vp vc L
  rise : Rising (absL L)
  val : ∀ x, atL (absL L) x + z * multI x n = atL (absL L0) x + z * multI x n0
  cnt : 2 ^ k * n ≤ n0
  len : L.length ≤ L0.length + k
  kept : IntsKept W0 wr
  moved : Moved B W0 wr
  below : Below base W0 wr

theorem InNum.cnt_le {base M B : Nat} {W0 wr : World} {z : Int} {L0 : List Ent} {n0 n k : Nat} {vp vc : Value} {L : List Ent} (h : InNum base M B W0 wr z L0 n0 n k vp vc L) (hn : 0 < n) (hn06 : n0 ≤ 1000000) : k ≤ 19 := by
  rcases Nat.lt_or_ge 19 k with h' | h'
  · have h1 := h.cnt
    have h2 : 2 ^ 20 ≤ 2 ^ k := Nat.pow_le_pow_right (by decide) h'
    have h3 : (2 : Nat) ^ 20 = 1048576 := by decide
    have h4 := Nat.mul_le_mul_left (2 ^ k) hn
    omega
  · exact h'
theorem InNum.coef {base M B : Nat} {W0 wr : World} {z : Int} {L0 : List Ent} {n0 n k : Nat} {vp vc : Value} {L : List Ent} (h : InNum base M B W0 wr z L0 n0 n k vp vc L) (hn : 0 < n) (hn6 : n ≤ 1000000) (hn0 : 0 < n0) (hn06 : n0 ≤ 1000000) {E : Nat} (hb : ∀ x, (atL (absL L0) x).natAbs + 20 * z.natAbs < E) : ∀ e ∈ L, e.z.natAbs < E := fun e he => by
  have h0 := atL_mem h.rise (absL_mem he)
  simp only at h0
  have h1 := h.val e.p
  have h2 := hb e.p
  have h3 := multI_nonneg e.p n
  have h4 := multI_le e.p hn hn6
  have h5 := multI_nonneg e.p n0
  have h6 := multI_le e.p hn0 hn06
  rw [h0] at h1
  have h7 : e.z = atL (absL L0) e.p + z * (multI e.p n0 - multI e.p n) := by rw [Int.mul_sub]; omega
  have h8 : (z * (multI e.p n0 - multI e.p n)).natAbs ≤ z.natAbs * 19 := by
    rw [Int.natAbs_mul]
    exact Nat.mul_le_mul_left _ (by omega)
  have h9 := Int.natAbs_add_le (atL (absL L0) e.p) (z * (multI e.p n0 - multI e.p n))
  rw [← h7] at h9
  omega
theorem InNum.put {base M B : Nat} {W0 wr w1 : World} {z : Int} {L0 : List Ent} {n0 n k d : Nat} {vp vc vp' vc' : Value} {L L' : List Ent} (h : InNum base M B W0 wr z L0 n0 n k vp vc L) (hn : 0 < n) (hd : Pr d) (hm : n % d = 0)
    (hw : WideAt base M w1 B vp' vc' L') (hp : Put (absL L) (absL L') d z) (hk : IntsKept wr w1) (hmv : Moved B wr w1) (hb : Below base wr w1) : InNum base M B W0 w1 z L0 n0 (n / d) (k + 1) vp' vc' L' := by
  refine ⟨hw, hp.rise, fun x => ?_, ?_, ?_, h.kept.trans hk, h.moved.trans hmv, h.below.trans hb⟩
  · rw [hp.val x, ← h.val x, multI_step x hn hd hm, Int.mul_add]
    by_cases hx : x = (d : Int)
    · rw [if_pos hx, if_pos hx, Int.mul_one]; omega
    · rw [if_neg hx, if_neg hx, Int.mul_zero]; omega
  · have h1 := h.cnt
    have h2 : 2 * (n / d) ≤ n := by
      have h3 := Nat.mul_le_mul_right (n / d) hd.1
      have h4 := Nat.mul_div_le n d
      omega
    have h5 := Nat.mul_le_mul_left (2 ^ k) h2
    rw [Nat.pow_succ, Nat.mul_assoc]
    omega
  · have h1 := hp.len
    have h2 := h.len
    rw [absL_length, absL_length] at h1
    omega
/-- A new block is none of a Wide's own. -/
theorem WideAt.not_mine {base M : Nat} {W : World} {B : Nat} {vp vc : Value} {L : List Ent} (h : WideAt base M W B vp vc L) (X : Obj) : ¬ Mine B (W.alloc X) W.heap.size := by
  have hB := h.lt
  have hb : Below W.heap.size W (W.alloc X) := new_below _ _
  rintro (h1 | ⟨n, cap, h1⟩)
  · omega
  · rw [(h.later hb).cc] at h1
    have hv := Option.some.inj h1
    subst hv
    rcases h.C.2 with ⟨h2, _⟩ | ⟨g, c, cur, h2, _, h3, _⟩
    · cases h2
    · have h4 : W.heap.size = g := by injection h2 with h2; injection h2 with h2; injection h2
      have h5 := h.C.lt g (by rw [h2]; rfl)
      omega

def numMeas (t r : Nat) : Nat := if t ≤ 1 then 0 else 2000 - r
theorem numMeas_lt {n d m e : Nat} (h : 1 < n) (hd : d ≤ 1001) (h' : m ≤ 1 ∨ d < e) : numMeas m e < numMeas n d := by
  unfold numMeas
  rw [if_neg (show ¬ n ≤ 1 by omega)]
  by_cases hm : m ≤ 1
  · rw [if_pos hm]; omega
  · rw [if_neg hm]; omega

set_option maxRecDepth 100000 in
set_option maxHeartbeats 2000000 in
theorem Number_any (base M B n0 : Nat) (z : Int) (cv vp vc : Value) (L : List Ent) (k0 : Nat) (w : World) (hW : WideAt base M w B vp vc L) (hc : RatioAt w cv (lowN M z) (lowD M z)) (hM : 0 < M) (hr : Rising (absL L)) (hlen : L.length ≤ 90000) (hn1 : 1 ≤ n0) (hn6 : n0 ≤ 1000000) (hb : ∀ x, (atL (absL L) x).natAbs + 20 * z.natAbs < 1000000 ^ k0) (hbM : M < 1000000 ^ k0) (hk0 : k0 ≤ 1000) :
    Calls Tryz.prog 33 #[.pointer (some ⟨B, 0, none⟩), .int .i64 n0, cv] w fun e w' => e = .returned (.tuple #[]) ∧ ∃ vp' vc' L' k, InNum base M B w w' z L n0 1 k vp' vc' L' := by
  obtain ⟨s, ad, l, cap, ad', l', cap', rfl⟩ := hc.parts
  have hb0 : Below w.heap.size w (w.alloc (.cells #[.bool s, .slice ad l cap, .slice ad' l' cap'] 57)) := new_below _ _
  have hnm := hW.not_mine (.cells #[.bool s, .slice ad l cap, .slice ad' l' cap'] 57)
  have hbz : z.natAbs < 1000000 ^ k0 := by have := hb 0; omega
  have hI0 : InNum base M B w (w.alloc (.cells #[.bool s, .slice ad l cap, .slice ad' l' cap'] 57)) z L n0 n0 0 vp vc L :=
    ⟨hW.later hb0, hr, fun x => rfl, by simp, Nat.le_refl _, IntsKept.of_below hb0, Moved.of_below hb0 hW.lt, hb0.mono (by have := hW.hB; have := hW.lt; omega)⟩
  have HC : Hid (∀ wr, Moved B (w.alloc (.cells #[.bool s, .slice ad l cap, .slice ad' l' cap'] 57)) wr → wr.cell? ⟨w.heap.size, 0, none⟩ = some (.bool s) ∧ wr.cell? ⟨w.heap.size, 1, none⟩ = some (.slice ad l cap) ∧ wr.cell? ⟨w.heap.size, 2, none⟩ = some (.slice ad' l' cap')) := fun wr hm => by
    refine ⟨?_, ?_, ?_⟩
    · rw [hm.cell (by simp) hnm]; simp
    · rw [hm.cell (by simp) hnm]; simp
    · rw [hm.cell (by simp) hnm]; simp
  have HRA : Hid (∀ wr, IntsKept w wr → RatioAt wr (.agg #[.bool s, .slice ad l cap, .slice ad' l' cap']) (lowN M z) (lowD M z)) := fun wr hk => hc.kept hk
  obtain ⟨W0, hW0⟩ : ∃ W0, W0 = w.alloc (.cells #[.bool s, .slice ad l cap, .slice ad' l' cap'] 57) := ⟨_, rfl⟩
  rw [← hW0] at hI0 HC
  have HW0 := Hid.mk' hW0
  have HM0 : Hid (Moved B W0 W0) := Moved.refl _ _
  have HI0 := Hid.mk' hI0
  have HB := Hid.mk' hb
  clear hW hc hr hb hb0 hnm hI0 hW0
  go_enter Tryz.func33, Tryz.ntmps33
  go_wp2_with fail
  rw [← HW0.out]
  go_loopw [1, 6] (fun t r wr => ∃ (n d k : Nat) (vp1 vc1 : Value) (L1 : List Ent), t = .int .i64 n ∧ r = .int .i64 d ∧ 1 ≤ n ∧ n ≤ 1000000 ∧ 2 ≤ d ∧ d ≤ 1000001 ∧ (n ≤ 1 ∨ d ≤ 1001) ∧ Hid (∀ e, 2 ≤ e → e < d → n % e ≠ 0) ∧ Hid (InNum base M B w wr z L n0 n k vp1 vc1 L1) ∧ Hid (Moved B W0 wr)) (fun t r _ => numMeas (intOf t).toNat (intOf r).toNat)
  case atStart => exact ⟨n0, 2, 0, vp, vc, L, rfl, rfl, hn1, hn6, by omega, by omega, by omega, fun e h1 h2 => by omega, HI0, HM0⟩
  case round =>
    clear HI0 HM0
    obtain ⟨n, d, k, vp1, vc1, L1, rfl, rfl, hn, hnm, hd2, hd3, hd4, HD, HI, HMV⟩ := hrel
    by_cases h1 : n ≤ 1
    · obtain rfl : n = 1 := by omega
      go_wp2_with fail
      go_end0
      exact ⟨rfl, _, _, _, _, HI.out⟩
    · have h1I : (1 : Int) < (n : Int) := by omega
      have hd5 : d ≤ 1001 := by omega
      by_cases hle : d * d ≤ n
      · have hq' : wrap64 ((d : Int) * (d : Int)) ≤ (n : Int) := by
          have h0 : (d : Int) * (d : Int) = ((d * d : Nat) : Int) := by simp
          rw [h0, w64 _ (by omega)]; omega
        have hd6 : d ≤ 1000 := by
          rcases Nat.lt_or_ge 1000 d with h | h
          · have := Nat.mul_le_mul h h; omega
          · exact h
        clear hle hd4
        go_wp2_with fail
        obtain ⟨wo, hwo⟩ : ∃ wo, wo = wr := ⟨_, rfl⟩
        rw [← hwo] at HI HMV ⊢
        clear hwo
        go_loopw [1] (fun t wr => ∃ (m k : Nat) (vp1 vc1 : Value) (L1 : List Ent), t = .int .i64 m ∧ 1 ≤ m ∧ m ≤ n ∧ Hid (∀ e, 2 ≤ e → e < d → m % e ≠ 0) ∧ Hid (InNum base M B w wr z L n0 m k vp1 vc1 L1) ∧ Hid (Moved B W0 wr)) (fun t _ => (intOf t).toNat)
        case atStart => exact ⟨n, k, vp1, vc1, L1, rfl, hn, Nat.le_refl _, HD, HI, HMV⟩
        case round =>
          clear HD HI HMV hq'
          obtain ⟨m, k, vp1, vc1, L1, rfl, hm, hmm, HD, HI, HMV⟩ := hrel
          by_cases hmod : m % d = 0
          · have hb1 : ((m : Int) % (d : Int) == 0) = true := by
              have : (m : Int) % (d : Int) = ((m % d : Nat) : Int) := by simp
              rw [this, hmod]; rfl
            have hpr : Pr d := pr_least hd2 hmod HD.out
            have hdm : d ≤ m := Nat.le_of_dvd hm (Nat.dvd_of_mod_eq_zero hmod)
            obtain ⟨c0, c1, c2⟩ := HC.out wr HMV.out
            have hk := HI.out.cnt_le hm hn6
            have hpri := Prime_any base M B d z _ vp1 vc1 L1 k0 wr HI.out.wide (HRA.out wr HI.out.kept) hM HI.out.rise (by have := HI.out.len; omega) hbz (HI.out.coef hm (by omega) hn1 hn6 HB.out) hbM hk0
            have HPUT := Hid.mk' (fun (w1 : World) (vp' vc' : Value) (L' : List Ent) => HI.out.put (w1 := w1) (vp' := vp') (vc' := vc') (L' := L') hm hpr hmod)
            have hdiv : m / d ≤ m / 2 := Nat.div_le_div_left hd2 (by omega)
            have hdiv1 : 1 ≤ m / d := Nat.div_pos hdm (by omega)
            have HQM := Hid.mk' (quo_any (a := m) (b := d) (by omega))
            have HDV := Hid.mk' (And.intro hdiv1 hdiv)
            have HMOD := Hid.mk' hmod
            clear hmod hpr hdiv hdiv1 HI
            go_wp2_with fail
            refine hpri.mono ?_
            clear hpri
            rintro e w1 ⟨rfl, vp2, vc2, L2, q1, q2, q3, q4, q5⟩
            have HI2 := Hid.mk' (HPUT.out w1 vp2 vc2 L2 q1 q2 q3 q4 q5)
            have HM2 := Hid.mk' (HMV.out.trans q4)
            clear q1 q2 q3 q4 q5 HPUT c0 c1 c2
            go_wp2_with fail
            exact ⟨⟨m / d, k + 1, _, _, _, by rw [HQM.out], HDV.out.1, by have := HDV.out.2; omega, left_no HMOD.out HD.out, HI2, HM2⟩, by rw [HQM.out]; show (((m / d : Nat) : Int)).toNat < ((m : Nat) : Int).toNat; rw [Int.toNat_natCast, Int.toNat_natCast]; have := HDV.out.2; omega⟩
          · have hb1 : ((m : Int) % (d : Int) == 0) = false := by
              have : (m : Int) % (d : Int) = ((m % d : Nat) : Int) := by simp
              rw [this, beq_eq_false_iff_ne]; omega
            have HD' : Hid (∀ e, 2 ≤ e → e < d + 1 → m % e ≠ 0) := fun e h1 h2 => by
              rcases Nat.lt_or_ge e d with h | h
              · exact HD.out e h1 h
              · obtain rfl : e = d := by omega
                exact hmod
            clear hmod
            go_wp2_with fail
            exact ⟨⟨m, d + 1, k, _, _, _, rfl, by go_num, hm, by omega, by omega, by omega, by omega, HD', HI, HMV⟩, by simp [intOf]; exact numMeas_lt (by omega) (by omega) (by omega)⟩
      · have hq' : (n : Int) < wrap64 ((d : Int) * (d : Int)) := by
          have h0 : (d : Int) * (d : Int) = ((d * d : Nat) : Int) := by simp
          have h1 := Nat.mul_le_mul hd5 hd5
          rw [h0, w64 _ (by omega)]; omega
        have HPR : Hid (Pr n) := Pr_of_end (by omega) HD.out (by omega)
        clear hle hd4
        go_wp2_with fail
        obtain ⟨wo, hwo⟩ : ∃ wo, wo = wr := ⟨_, rfl⟩
        rw [← hwo] at HI HMV ⊢
        clear hwo
        go_loopw [1] (fun t wr => ∃ (m k : Nat) (vp1 vc1 : Value) (L1 : List Ent), t = .int .i64 m ∧ (m = n ∨ m = 1) ∧ Hid (InNum base M B w wr z L n0 m k vp1 vc1 L1) ∧ Hid (Moved B W0 wr)) (fun t _ => (intOf t).toNat)
        case atStart => exact ⟨n, k, vp1, vc1, L1, rfl, Or.inl rfl, HI, HMV⟩
        case round =>
          clear HD HI HMV hq'
          obtain ⟨m, k, vp1, vc1, L1, rfl, hmm, HI, HMV⟩ := hrel
          rcases hmm with rfl | rfl
          · have hb1 : ((m : Int) % (m : Int) == 0) = true := by
              have : (m : Int) % (m : Int) = ((m % m : Nat) : Int) := by simp
              rw [this, Nat.mod_self]; rfl
            obtain ⟨c0, c1, c2⟩ := HC.out wr HMV.out
            have hk := HI.out.cnt_le hn hn6
            have hpri := Prime_any base M B m z _ vp1 vc1 L1 k0 wr HI.out.wide (HRA.out wr HI.out.kept) hM HI.out.rise (by have := HI.out.len; omega) hbz (HI.out.coef hn (by omega) hn1 hn6 HB.out) hbM hk0
            have HPUT := Hid.mk' (fun (w1 : World) (vp' vc' : Value) (L' : List Ent) => HI.out.put (w1 := w1) (vp' := vp') (vc' := vc') (L' := L') hn HPR.out (Nat.mod_self m))
            have HQM := Hid.mk' (quo_any (a := m) (b := m) (by omega))
            clear HI
            go_wp2_with fail
            refine hpri.mono ?_
            clear hpri
            rintro e w1 ⟨rfl, vp2, vc2, L2, q1, q2, q3, q4, q5⟩
            have hi2 := HPUT.out w1 vp2 vc2 L2 q1 q2 q3 q4 q5
            rw [Nat.div_self (by omega)] at hi2
            have HI2 := Hid.mk' hi2
            have HM2 := Hid.mk' (HMV.out.trans q4)
            clear q1 q2 q3 q4 q5 HPUT c0 c1 c2 hi2
            go_wp2_with fail
            exact ⟨⟨1, k + 1, _, _, _, by rw [HQM.out, Nat.div_self (by omega)], Or.inr rfl, HI2, HM2⟩, by rw [HQM.out, Nat.div_self (by omega)]; simp [intOf]; omega⟩
          · have hb1 : ((1 : Int) % (n : Int) == 0) = false := by
              have : (1 : Int) % (n : Int) = ((1 % n : Nat) : Int) := by simp
              rw [this, beq_eq_false_iff_ne, Nat.mod_eq_of_lt (by omega)]; decide
            go_wp2_with fail
            exact ⟨⟨1, n + 1, k, _, _, _, rfl, by go_num, by omega, by omega, by omega, by omega, Or.inl (by omega), (fun e h1 h2 => by rw [Nat.mod_eq_of_lt (by omega)]; omega), HI, HMV⟩, by simp [intOf]; exact numMeas_lt (by omega) (by omega) (by omega)⟩
end Go.Proofs.YtklhfagcembigaaGreatDoor
