/- The document's least whole numbers with the ratios of fractions. -/
import Derived.Test.YtphecjjblnnjdaaGreatDoorCnCh
namespace Go.Proofs.YtphecjjblnnjdaaGreatDoor
open Go.RowKit

theorem lcmP_small (l : List (Nat × Nat)) : (∀ p, p ∈ l → 0 < p.2 ∧ p.2 ≤ 1000000000) → lcmP l < 1000000 ^ (2 * l.length + 1) := by
  refine snoc_ind (P := fun l => (∀ p, p ∈ l → 0 < p.2 ∧ p.2 ≤ 1000000000) → lcmP l < 1000000 ^ (2 * l.length + 1)) ?_ ?_ l
  · intro _; decide
  · intro l p ih h
    have h1 := ih fun q hq => h q (by simp [hq])
    have h2 := (h p (by simp)).2
    rw [lcmP_snoc]
    have h3 : Nat.lcm (lcmP l) p.2 ≤ lcmP l * p.2 := Nat.div_le_self _ _
    have h4 : lcmP l * p.2 ≤ lcmP l * 1000000000 := Nat.mul_le_mul_left _ h2
    have h5 : (1000000 : Nat) ^ (2 * (l ++ [p]).length + 1) = 1000000 ^ (2 * l.length + 1) * 1000000000000 := by
      rw [show 2 * (l ++ [p]).length + 1 = (2 * l.length + 1) + 2 by simp; omega, Nat.pow_add]
    rw [h5]
    omega
theorem lcmP_small_take (l : List (Nat × Nat)) (h : ∀ p, p ∈ l → 0 < p.2 ∧ p.2 ≤ 1000000000) (hl : l.length ≤ 1000) (K : Nat) (hK : 2001 ≤ K) (k : Nat) : lcmP (l.take k) < 1000000 ^ K :=
  Nat.lt_of_lt_of_le (lcmP_small (l.take k) fun p hp => h p (List.mem_of_mem_take hp)) (Nat.pow_le_pow_right (by decide) (by simp; omega))
theorem wholeP_small {L a : Nat} {p : Nat × Nat} (hL : L < 1000000 ^ a) (hp : p.1 ≤ 1000000000) : wholeP L p < 1000000 ^ (a + 2) := by
  have h1 : L / p.2 ≤ L := Nat.div_le_self _ _
  have h2 : p.1 * (L / p.2) ≤ 1000000000 * L := Nat.mul_le_mul hp h1
  unfold wholeP
  rw [Nat.pow_add]
  generalize (1000000 : Nat) ^ a = A at *
  have : (1000000 : Nat) ^ 2 = 1000000000000 := by decide
  omega
theorem gcdP_small {L B : Nat} (hB : 0 < B) (l : List (Nat × Nat)) : (∀ p, p ∈ l → wholeP L p < B) → gcdP L l < B := by
  refine snoc_ind (P := fun l => (∀ p, p ∈ l → wholeP L p < B) → gcdP L l < B) ?_ ?_ l
  · intro _; exact hB
  · intro l p ih h
    rw [gcdP_snoc]
    have h1 := ih fun q hq => h q (by simp [hq])
    have h2 := h p (by simp)
    rcases Nat.eq_zero_or_pos (wholeP L p) with e | e
    · rw [e, Nat.gcd_zero_right]; exact h1
    · have := Nat.gcd_le_right (gcdP L l) e
      omega
/-- What one fraction's cells are. -/
theorem RtAt.cellsAt {w : World} {ad : Option Addr} {n cap : Nat} {l : List (Nat × Nat)} (h : RtAt w (.slice ad n cap) l) {i : Nat} {p : Nat × Nat} (hp : l[i]? = some p) : ∃ b o a1 l1 c1 a2 l2 c2, ad = some ⟨b, o, none⟩ ∧ w.cell? ⟨b, o + i * 3 + 1, none⟩ = some (.slice a1 l1 c1) ∧ w.cell? ⟨b, o + i * 3 + 2, none⟩ = some (.slice a2 l2 c2) ∧ BigAt w (.slice a1 l1 c1) p.1 ∧ BigAt w (.slice a2 l2 c2) p.2 := by
  obtain ⟨ad', cap', hv, hr⟩ := h
  simp only [Value.slice.injEq] at hv
  obtain ⟨rfl, _, rfl⟩ := hv
  obtain ⟨b, o, u, q, e, h0, h1, h2, h3, h4⟩ := hr i p hp
  obtain ⟨a1, l1, c1, rfl, _⟩ := h3.len
  obtain ⟨a2, l2, c2, rfl, _⟩ := h4.len
  exact ⟨b, o, a1, l1, c1, a2, l2, c2, e, h1, h2, h3, h4⟩
theorem bigPart2 (u v : Value) (a b K : Nat) (w : World) (ha : BigAt w u a) (hb : BigAt w v b) (hb0 : 0 < b) (hK : K ≤ 100000) (haK : a < 1000000 ^ K) (hbK : b < 1000000 ^ K) :
    Calls Tryz.prog 59 #[u, v] w fun e w' => ∃ a1 l1 c1 a2 l2 c2, e = .returned (.tuple #[.slice a1 l1 c1, .slice a2 l2 c2]) ∧ BigAt w' (.slice a1 l1 c1) (a / b) ∧ Below w.heap.size w w' := by
  refine (BigPart_any K (by omega) a haK (a / b) b rfl hb0 (Nat.lt_of_lt_of_le hbK (Nat.pow_le_pow_right (by decide) (by omega))) u v w ha hb).mono ?_
  rintro e w' ⟨q, r, rfl, hq, hr, hbw⟩
  obtain ⟨a1, l1, c1, rfl, _⟩ := hq.len
  obtain ⟨a2, l2, c2, rfl, _⟩ := hr.len
  exact ⟨a1, l1, c1, a2, l2, c2, rfl, hq, hbw⟩
theorem bigMul2 (u v : Value) (a b K : Nat) (w : World) (ha : BigAt w u a) (hb : BigAt w v b) (hK : K ≤ 100000) (haK : a < 1000000 ^ K) (hbK : b < 1000000 ^ K) :
    Calls Tryz.prog 60 #[u, v] w fun e w' => ∃ a1 l1 c1, e = .returned (.slice a1 l1 c1) ∧ BigAt w' (.slice a1 l1 c1) (a * b) ∧ (l1 = 0 ↔ a * b = 0) ∧ Below w.heap.size w w' := by
  refine (BigMul_any u v a b K w ha hb haK hbK (by omega)).mono ?_
  rintro e w' ⟨q, rfl, hq, hbw⟩
  obtain ⟨a1, l1, c1, rfl, hl⟩ := hq.len
  exact ⟨a1, l1, c1, rfl, hq, hl, hbw⟩
theorem bigGcd2 (u v : Value) (a b K : Nat) (w : World) (ha : BigAt w u a) (hb : BigAt w v b) (hK : K ≤ 100000) (haK : a < 1000000 ^ K) (hbK : b < 1000000 ^ K) :
    Calls Tryz.prog 58 #[u, v] w fun e w' => ∃ a1 l1 c1, e = .returned (.slice a1 l1 c1) ∧ BigAt w' (.slice a1 l1 c1) (Nat.gcd a b) ∧ (l1 = 0 ↔ Nat.gcd a b = 0) ∧ Below w.heap.size w w' := by
  refine (BigGcd_any u v a b K w ha hb haK hbK (by omega)).mono ?_
  rintro e w' ⟨q, rfl, hq, hbw⟩
  obtain ⟨a1, l1, c1, rfl, hl⟩ := hq.len
  exact ⟨a1, l1, c1, rfl, hq, hl, hbw⟩
/-- The numbers as a list. -/
def whL (l : List (Nat × Nat)) : List Int := l.map fun p => (wholeP (lcmP l) p : Int)
def whT (L : Nat) (l : List (Nat × Nat)) (k : Nat) : List Int := (l.take k).map fun p => (wholeP L p : Int)
theorem whT_succ {L : Nat} {l : List (Nat × Nat)} {k : Nat} {p : Nat × Nat} (h : l[k]? = some p) : whT L l (k + 1) = whT L l k ++ [(wholeP L p : Int)] := by
  unfold whT; rw [take_snocP h]; simp
theorem whT_length {L : Nat} {l : List (Nat × Nat)} {k : Nat} (h : k ≤ l.length) : (whT L l k).length = k := by
  unfold whT; simp; omega

set_option maxRecDepth 100000 in
set_option maxHeartbeats 8000000 in
theorem Whole_any (v : Value) (l : List (Nat × Nat)) (most : Nat) (w : World) (h : RtAt w v l) (hl : ∀ p, p ∈ l → 0 < p.2 ∧ p.2 ≤ 1000000000 ∧ p.1 ≤ 1000000000) (hn : l.length ≤ 1000) (hm : most ≤ 1000000) (hG : gcdP (lcmP l) l = 1) :
    Calls Tryz.prog 33 #[v, .int .i64 (most : Int)] w fun e w' => ((∀ p, p ∈ l → wholeP (lcmP l) p ≤ most) → ∃ v', e = .returned (.tuple #[v', .bool true]) ∧ w'.ownsRow w.heap.size 3 1 v' l.length (cellL (whL l))) ∧ ((∃ p, p ∈ l ∧ most < wholeP (lcmP l) p) → e = .returned (.tuple #[.slice none 0 0, .bool false])) ∧ Below w.heap.size w w' := by
  obtain ⟨i0, hi, hz0, hz1, hz2⟩ := info_parts Tryz.infoInt
  have HINF : Hid (Tryz.prog.info? 3 = some i0 ∧ i0.zero = some (.int .i64 0) ∧ i0.size = 1 ∧ i0.bytes = 8) := ⟨hi, hz0, hz1, hz2⟩
  clear hi hz0 hz1 hz2
  obtain ⟨K, hK1, hK2⟩ : ∃ K, 2001 ≤ K ∧ K ≤ 90000 := ⟨2001, by decide, by decide⟩
  have HSM := Hid.mk' (lcmP_small_take l (fun p hp => ⟨(hl p hp).1, (hl p hp).2.1⟩) hn K hK1)
  have HPOS : Hid (∀ k, 0 < lcmP (l.take k)) := fun k => lcmP_pos _ fun p hp => (hl p (List.mem_of_mem_take hp)).1
  have HR : Hid (∀ W, Below w.heap.size w W → RtAt W v l) := fun W hb => h.later hb
  have HL := Hid.mk' hl
  have HK : Hid ((1000000000 : Nat) < 1000000 ^ (K + 2) ∧ (1000000 : Nat) ^ K ≤ 1000000 ^ (K + 2) ∧ most < 1000000 ^ (K + 2)) := by
    have h1 : (1000000000 : Nat) < 1000000 ^ 2 := by decide
    have h2 : (1000000 : Nat) ^ 2 ≤ 1000000 ^ (K + 2) := Nat.pow_le_pow_right (by decide) (by omega)
    have h3 : (1000000 : Nat) ^ K ≤ 1000000 ^ (K + 2) := Nat.pow_le_pow_right (by decide) (by omega)
    exact ⟨by omega, h3, by omega⟩
  have HWS : Hid (∀ p, p ∈ l → wholeP (lcmP l) p < 1000000 ^ (K + 2)) := fun p hp => wholeP_small (a := K) (by have := HSM.out l.length; rw [List.take_length] at this; exact this) (hl p hp).2.2
  obtain ⟨ad, cap, rfl, _⟩ := h
  have HLEQ : Hid (lcmP (l.take l.length) = lcmP l) := by show _ = _; rw [List.take_length]
  have HGQ := Hid.mk' hG
  have hb0 := BigOf_any 1 w (by decide)
  clear hl hG
  go_enter Tryz.func33, Tryz.ntmps33
  go_wp2_with fail
  refine hb0.mono ?_
  clear hb0
  rintro e w1 ⟨v1, rfl, hv1, hb1⟩
  have HV1 := Hid.mk' hv1
  have HB1 := Hid.mk' hb1
  clear hv1 hb1
  go_wp2_with fail
  go_loopw [6, 7] (fun s t wr => ∃ k : Nat, k ≤ l.length ∧ t = .int .i64 k ∧ Hid (BigAt wr s (lcmP (l.take k))) ∧ Hid (Below w.heap.size w wr)) (fun _ t _ => l.length - (intOf t).toNat)
  case atStart => exact ⟨0, Nat.zero_le _, rfl, by simpa [lcmP] using HV1, HB1⟩
  case round =>
    clear HV1 HB1
    obtain ⟨k, hk, rfl, HD, HB⟩ := hrel
    rcases Nat.lt_or_ge k l.length with h1 | h1
    · have hkI : (k : Int) < (l.length : Int) := by omega
      have hk0 : (0 : Int) ≤ (k : Int) := by omega
      obtain ⟨p, hp⟩ : ∃ p, l[k]? = some p := ⟨l[k], by simp [h1]⟩
      obtain ⟨b, o, a1, l1, c1, a2, l2, c2, rfl, hc1, hc2, hn1, hn2⟩ := (HR.out wr HB.out).cellsAt hp
      have hpm := HL.out p (List.mem_of_getElem? hp)
      have hgp : 0 < Nat.gcd (lcmP (l.take k)) p.2 := Nat.gcd_pos_of_pos_left _ (HPOS.out k)
      have HD1 := HSM.out k
      have HLC : Hid (lcmP (l.take (k + 1)) = lcmP (l.take k) * (p.2 / Nat.gcd (lcmP (l.take k)) p.2)) := by show _ = _; rw [lcmP_take hp, lcm_step]
      have hql : p.2 / Nat.gcd (lcmP (l.take k)) p.2 ≤ p.2 := Nat.div_le_self _ _
      have hgl : Nat.gcd (lcmP (l.take k)) p.2 ≤ p.2 := Nat.gcd_le_right _ hpm.1
      have hK := HK.out
      have HDn := Hid.mk' (HD.out.later (Below.refl _ _).drew)
      have HP2 : Hid (∀ W, Below wr.heap.size wr W → BigAt W (.slice a2 l2 c2) p.2) := fun W hb => hn2.later hb
      have HKS : Hid (∀ W, Below wr.heap.size wr W → W.cell? ⟨b, o + k * 3 + 2, none⟩ = some (.slice a2 l2 c2)) := fun W hb => by rw [hb.cell (cell_lt hc2)]; exact hc2
      have HGC : Hid (∀ W, Below wr.heap.size wr W → Calls Tryz.prog 58 #[u6, .slice a2 l2 c2] W fun e w' => ∃ a1 l1 c1, e = .returned (.slice a1 l1 c1) ∧ BigAt w' (.slice a1 l1 c1) (Nat.gcd (lcmP (l.take k)) p.2) ∧ (l1 = 0 ↔ Nat.gcd (lcmP (l.take k)) p.2 = 0) ∧ Below W.heap.size W w') := fun W hb => bigGcd2 _ _ _ _ (K + 2) W (HD.out.later hb) (hn2.later hb) (by omega) (by omega) (by omega)
      have HPT : Hid (∀ (W : World) (x : Value), Below wr.heap.size wr W → BigAt W x (Nat.gcd (lcmP (l.take k)) p.2) → Calls Tryz.prog 59 #[.slice a2 l2 c2, x] W fun e w' => ∃ a1 l1 c1 a2 l2 c2, e = .returned (.tuple #[.slice a1 l1 c1, .slice a2 l2 c2]) ∧ BigAt w' (.slice a1 l1 c1) (p.2 / Nat.gcd (lcmP (l.take k)) p.2) ∧ Below W.heap.size W w') := fun W x hb hx => bigPart2 _ _ _ _ (K + 2) W (hn2.later hb) hx hgp (by omega) (by omega) (by omega)
      have HML : Hid (∀ (W : World) (x y : Value), BigAt W x (lcmP (l.take k)) → BigAt W y (p.2 / Nat.gcd (lcmP (l.take k)) p.2) → Calls Tryz.prog 60 #[x, y] W fun e w' => ∃ a1 l1 c1, e = .returned (.slice a1 l1 c1) ∧ BigAt w' (.slice a1 l1 c1) (lcmP (l.take k) * (p.2 / Nat.gcd (lcmP (l.take k)) p.2)) ∧ (l1 = 0 ↔ lcmP (l.take k) * (p.2 / Nat.gcd (lcmP (l.take k)) p.2) = 0) ∧ Below W.heap.size W w') := fun W x y hx hy => bigMul2 _ _ _ _ (K + 2) W hx hy (by omega) (by omega) (by omega)
      have hcur0 : Below wr.heap.size wr wr := Below.refl _ _
      have hcur : Below wr.heap.size wr wr.drew := (Below.refl _ _).drew
      clear hn1 hn2 hgp hql hgl hpm hp HD1 hK
      generalize Nat.gcd (lcmP (l.take k)) p.2 = gg at *
      generalize p.2 / gg = qq at *
      go_wp2_with fail
      go_region_held3 (fun W => W.cell? ⟨b, o + k * 3 + 2, none⟩ = some (.slice a2 l2 c2))
        (first | exact HKS.out _ hcur0 | exact HKS.out _ hcur | exact HKS.out _ hbw1 | exact HKS.out _ hbw2)
        (first
          | (go_at_call 59; refine (HPT.out _ _ hbw1 HG1.out).mono ?_; rintro e w3 ⟨e1, f1, g1, e2, f2, g2, rfl, hq3, hb3⟩; have HQ3 := Hid.mk' hq3; have hbw2 := below_chain hbw1 hb3; clear hq3 hb3)
          | (go_at_call 58; refine (HGC.out _ hcur).mono ?_; rintro e w2 ⟨d1, d2, d3, rfl, hg2, _, hb2⟩; have HG1 := Hid.mk' hg2; have hbw1 := below_chain hcur hb2; clear hg2 hb2))
      go_wp2_with fail
      refine (HML.out _ _ _ (HD.out.later hbw2) HQ3.out).mono ?_
      rintro e w4 ⟨m1, m2, m3, rfl, hm4, _, hb4⟩
      rw [← HLC.out] at hm4
      have HM4 := Hid.mk' hm4
      have HB4 := Hid.mk' (below_chain HB.out (below_chain hbw2 hb4))
      clear hm4 hb4
      go_wp2_with fail
      exact ⟨⟨k + 1, h1, by go_num, HM4, HB4⟩, by simp [intOf]; omega⟩
    · obtain rfl : k = l.length := by omega
      rw [HLEQ.out] at HD
      have HLS := HSM.out l.length
      rw [HLEQ.out] at HLS
      have HLS2 := Hid.mk' HLS
      have HLP := HPOS.out l.length
      rw [HLEQ.out] at HLP
      clear HLS HLEQ HSM HPOS
      generalize hL : lcmP l = L at *
      have HLL := Hid.mk' hL
      clear hL
      obtain ⟨ad6, n6, cap6, hu6, _⟩ := HD.out.len
      have HU6 := Hid.mk' hu6
      clear hu6
      go_wp2_with fail
      obtain ⟨wd, hwd⟩ : ∃ wd, wd = wr := ⟨_, rfl⟩
      rw [← hwd] at HD HB ⊢
      clear hwd
      go_loopw [10, 11] (fun s t wr => ∃ k : Nat, k ≤ l.length ∧ t = .int .i64 k ∧ Hid (BigAt wr s (gcdP L (l.take k))) ∧ Hid (Below wd.heap.size wd wr)) (fun _ t _ => l.length - (intOf t).toNat)
      case atStart => exact ⟨0, Nat.zero_le _, rfl, bigAt_zero _, Below.refl _ _⟩
      case round =>
        obtain ⟨k, hk, rfl, HG, HC⟩ := hrel
        rcases Nat.lt_or_ge k l.length with h2 | h2
        · have hkI : (k : Int) < (l.length : Int) := by omega
          have hk0 : (0 : Int) ≤ (k : Int) := by omega
          obtain ⟨p, hp⟩ : ∃ p, l[k]? = some p := ⟨l[k], by simp [h2]⟩
          obtain ⟨b, o, a1, l1, c1, a2, l2, c2, rfl, hc1, hc2, hn1, hn2⟩ := (HR.out wr (below_chain HB.out HC.out)).cellsAt hp
          have hpm := HL.out p (List.mem_of_getElem? hp)
          have hK := HK.out
          have hLS := HLS2.out
          have HGS : Hid (gcdP L (l.take (k + 1)) = Nat.gcd (gcdP L (l.take k)) (wholeP L p)) := gcdP_take hp
          have hws := HWS.out p (List.mem_of_getElem? hp)
          have HGB : Hid (gcdP L (l.take k) < 1000000 ^ (K + 2)) := by
            show _ < _
            exact gcdP_small (by omega) _ fun q hq => HWS.out q (List.mem_of_mem_take hq)
          have HPT := Hid.mk' (bigPart2 u6 (.slice a2 l2 c2) L p.2 (K + 2) wr (HD.out.later HC.out) hn2 hpm.1 (by omega) (by omega) (by omega))
          have hqL : L / p.2 ≤ L := Nat.div_le_self _ _
          have HML : Hid (∀ (W : World) (x : Value), Below wr.heap.size wr W → BigAt W x (L / p.2) → Calls Tryz.prog 60 #[.slice a1 l1 c1, x] W fun e w' => ∃ a1 l1 c1, e = .returned (.slice a1 l1 c1) ∧ BigAt w' (.slice a1 l1 c1) (wholeP L p) ∧ (l1 = 0 ↔ wholeP L p = 0) ∧ Below W.heap.size W w') := fun W x hb hx => bigMul2 _ _ _ _ (K + 2) W (hn1.later hb) hx (by omega) (by omega) (by omega)
          have HC1 : Hid (∀ W, Below wr.heap.size wr W → W.cell? ⟨b, o + k * 3 + 1, none⟩ = some (.slice a1 l1 c1)) := fun W hb => by rw [hb.cell (cell_lt hc1)]; exact hc1
          have HGC : Hid (∀ (W : World) (x y : Value), BigAt W x (gcdP L (l.take k)) → BigAt W y (wholeP L p) → Calls Tryz.prog 58 #[x, y] W fun e w' => ∃ a1 l1 c1, e = .returned (.slice a1 l1 c1) ∧ BigAt w' (.slice a1 l1 c1) (Nat.gcd (gcdP L (l.take k)) (wholeP L p)) ∧ (l1 = 0 ↔ Nat.gcd (gcdP L (l.take k)) (wholeP L p) = 0) ∧ Below W.heap.size W w') := fun W x y hx hy => bigGcd2 _ _ _ _ (K + 2) W hx hy (by omega) HGB.out hws
          clear hn1 hn2 hpm hp hc1 hqL hLS hK hws HGB
          obtain ⟨ag, lg, cg, rfl, hlg⟩ := HG.out.len
          generalize gcdP L (l.take k) = G0 at *
          generalize wholeP L p = N0 at *
          generalize L / p.2 = Q0 at *
          go_wp2_with fail
          refine HPT.out.mono ?_
          rintro e w2 ⟨e1, f1, g1, e2, f2, g2, rfl, hq2, hb2⟩
          have HQ2 := Hid.mk' hq2
          have HB2 := Hid.mk' hb2
          have hcn := HC1.out w2 hb2
          clear hq2 hb2 HPT
          go_wp2_with fail
          refine (HML.out w2 _ HB2.out HQ2.out).mono ?_
          rintro e w3 ⟨m1, m2, m3, rfl, hm3, hml3, hb3⟩
          have HM3 := Hid.mk' hm3
          have HG3 := Hid.mk' (HG.out.later (below_chain HB2.out hb3))
          have HB3 := Hid.mk' (below_chain HC.out (below_chain HB2.out hb3))
          clear hm3 hb3 hcn hc2
          rcases Nat.eq_zero_or_pos m2 with hm0 | hm0
          · have hN0 := hml3.1 hm0
            have HGE : Hid (gcdP L (l.take (k + 1)) = G0) := by show _ = _; rw [HGS.out, hN0, Nat.gcd_zero_right]
            subst hm0
            clear hml3
            rcases Nat.eq_zero_or_pos lg with hg0 | hg0
            · have hG0 := hlg.1 hg0
              subst hg0
              have HE2 : Hid (gcdP L (l.take (k + 1)) = N0) := by show _ = _; rw [HGE.out, hG0, hN0]
              clear hlg hG0 hN0
              go_wp2_with fail
              exact ⟨⟨k + 1, h2, by go_num, by rw [HE2.out]; exact HM3, HB3⟩, by simp [intOf]; omega⟩
            · have hgI : ((lg : Int) == 0) = false := by rw [beq_eq_false_iff_ne]; omega
              clear hlg hN0
              go_wp2_with fail
              exact ⟨⟨k + 1, h2, by go_num, by rw [HGE.out]; exact HG3, HB3⟩, by simp [intOf]; omega⟩
          · have hmI : (0 : Int) < (m2 : Int) := by omega
            have hN0 : N0 ≠ 0 := fun e => by have := hml3.2 e; omega
            rcases Nat.eq_zero_or_pos lg with hg0 | hg0
            · have hG0 := hlg.1 hg0
              subst hg0
              have HE2 : Hid (gcdP L (l.take (k + 1)) = N0) := by show _ = _; rw [HGS.out, hG0, Nat.gcd_zero_left]
              clear hlg hG0 hN0 hml3
              go_wp2_with fail
              exact ⟨⟨k + 1, h2, by go_num, by rw [HE2.out]; exact HM3, HB3⟩, by simp [intOf]; omega⟩
            · have hgI : (0 : Int) < (lg : Int) := by omega
              have HGP : Hid (0 < Nat.gcd G0 N0) := Nat.gcd_pos_of_pos_right _ (by omega)
              clear hlg hN0 hml3
              go_wp2_with fail
              refine (HGC.out w3 _ _ HG3.out HM3.out).mono ?_
              rintro e w4 ⟨d1, d2, d3, rfl, hd4, hdl4, hb4⟩
              have HD4 := Hid.mk' hd4
              have hdI : ((d2 : Int) == 0) = false := by
                rw [beq_eq_false_iff_ne]
                intro e
                have := hdl4.1 (by omega)
                have := HGP.out
                omega
              have HB4 := Hid.mk' (below_chain HB3.out hb4)
              clear hd4 hdl4 hb4
              go_wp2_with fail
              exact ⟨⟨k + 1, h2, by go_num, by rw [HGS.out]; exact HD4, HB4⟩, by simp [intOf]; omega⟩
        · obtain rfl : k = l.length := by omega
          rw [List.take_length, HGQ.out] at HG
          obtain ⟨ag, lg, cg, rfl, _⟩ := HG.out.len
          go_wp2_with fail
          obtain ⟨we, hwe⟩ : ∃ we, we = wr := ⟨_, rfl⟩
          rw [← hwe] at HG HC ⊢
          have HDE := Hid.mk' (HD.out.later HC.out)
          have HBE := Hid.mk' (below_chain HB.out HC.out)
          clear hwe HC
          go_loopw [15, 16] (fun s t wr => ∃ k : Nat, k ≤ l.length ∧ t = .int .i64 k ∧ Hid (wr.ownsRow we.heap.size 3 1 s (whT L l k).length (cellL (whT L l k))) ∧ Hid (Below we.heap.size we wr) ∧ Hid (∀ j p, j < k → l[j]? = some p → wholeP L p ≤ most)) (fun _ t _ => l.length - (intOf t).toNat)
          case atStart => exact ⟨0, Nat.zero_le _, rfl, World.ownsRow_nil _ _ _ _, Below.refl _ _, fun j p hj => by omega⟩
          case round =>
            obtain ⟨k, hk, rfl, HO, HC, HA⟩ := hrel
            rcases Nat.lt_or_ge k l.length with h2 | h2
            · have hkI : (k : Int) < (l.length : Int) := by omega
              have hk0 : (0 : Int) ≤ (k : Int) := by omega
              obtain ⟨p, hp⟩ : ∃ p, l[k]? = some p := ⟨l[k], by simp [h2]⟩
              obtain ⟨b, o, a1, l1, c1, a2, l2, c2, rfl, hc1, hc2, hn1, hn2⟩ := (HR.out wr (below_chain HBE.out HC.out)).cellsAt hp
              have hpm := HL.out p (List.mem_of_getElem? hp)
              have hK := HK.out
              have hLS := HLS2.out
              have hws := HWS.out p (List.mem_of_getElem? hp)
              have HPM := Hid.mk' (List.mem_of_getElem? hp)
              have HPT := Hid.mk' (bigPart2 u6 (.slice a2 l2 c2) L p.2 (K + 2) wr (HDE.out.later HC.out) hn2 hpm.1 (by omega) (by omega) (by omega))
              have hqL : L / p.2 ≤ L := Nat.div_le_self _ _
              have HML : Hid (∀ (W : World) (x : Value), Below wr.heap.size wr W → BigAt W x (L / p.2) → Calls Tryz.prog 60 #[.slice a1 l1 c1, x] W fun e w' => ∃ a1 l1 c1, e = .returned (.slice a1 l1 c1) ∧ BigAt w' (.slice a1 l1 c1) (wholeP L p) ∧ (l1 = 0 ↔ wholeP L p = 0) ∧ Below W.heap.size W w') := fun W x hb hx => bigMul2 _ _ _ _ (K + 2) W (hn1.later hb) hx (by omega) (by omega) (by omega)
              have HC1 : Hid (∀ W, Below wr.heap.size wr W → W.cell? ⟨b, o + k * 3 + 1, none⟩ = some (.slice a1 l1 c1)) := fun W hb => by rw [hb.cell (cell_lt hc1)]; exact hc1
              have HP1 : Hid (∀ (W : World) (x y : Value), BigAt W x (wholeP L p) → BigAt W y 1 → Calls Tryz.prog 59 #[x, y] W fun e w' => ∃ a1 l1 c1 a2 l2 c2, e = .returned (.tuple #[.slice a1 l1 c1, .slice a2 l2 c2]) ∧ BigAt w' (.slice a1 l1 c1) (wholeP L p) ∧ Below W.heap.size W w') := fun W x y hx hy => by
                have := bigPart2 x y (wholeP L p) 1 (K + 2) W hx hy (by decide) (by omega) hws (by omega)
                rw [Nat.div_one] at this
                exact this
              have HCM : Hid (∀ (W : World) (x y : Value), BigAt W x (wholeP L p) → BigAt W y most → Calls Tryz.prog 61 #[x, y] W fun e w' => e = .returned (.int .i64 (cmpOf (wholeP L p) most)) ∧ Below W.heap.size W w') := fun W x y hx hy => by
                refine (BigCmp_any x y _ _ (K + 2) W hx hy hws hK.2.2 (by omega)).mono ?_
                rintro e w' ⟨rfl, m, rfl⟩
                exact ⟨rfl, below_drewN (Below.refl _ _) _⟩
              have HTK : Hid (whT L l (k + 1) = whT L l k ++ [(wholeP L p : Int)]) := whT_succ hp
              have HAK : Hid (wholeP L p ≤ most → ∀ j q, j < k + 1 → l[j]? = some q → wholeP L q ≤ most) := fun hle j q hj hq => by
                rcases Nat.lt_or_ge j k with h3 | h3
                · exact HA.out j q h3 hq
                · obtain rfl : j = k := by omega
                  rw [hp] at hq
                  obtain rfl := Option.some.inj hq
                  exact hle
              have HLN : Hid ((whT L l k).length ≤ 1000) := by show _ ≤ _; rw [whT_length hk]; omega
              clear hn1 hn2 hpm hp hc1 hqL hLS hK hws
              go_wp2_with fail
              refine HPT.out.mono ?_
              rintro e w2 ⟨e1, f1, g1, e2, f2, g2, rfl, hq2, hb2⟩
              have HQ2 := Hid.mk' hq2
              have HB2 := Hid.mk' hb2
              have hcn := HC1.out w2 hb2
              clear hq2 hb2 HPT
              go_wp2_with fail
              refine (HML.out w2 _ HB2.out HQ2.out).mono ?_
              rintro e w3 ⟨m1, m2, m3, rfl, hm3, _, hb3⟩
              have HM3 := Hid.mk' hm3
              have HB3 := Hid.mk' (below_chain HB2.out hb3)
              clear hm3 hb3 hcn hc2
              go_wp2_with fail
              refine (HP1.out w3 _ _ HM3.out (HG.out.later (below_chain HC.out HB3.out))).mono ?_
              rintro e w4 ⟨n1, n2, n3, n4, n5, n6, rfl, hm4, hb4⟩
              have HM4 := Hid.mk' hm4
              have HB4 := Hid.mk' (below_chain HB3.out hb4)
              clear hm4 hb4
              go_wp2_with fail
              refine (BigOf_any most w4 (by omega)).mono ?_
              rintro e w5 ⟨v5, rfl, hv5, hb5⟩
              have HV5 := Hid.mk' hv5
              have HM5 := Hid.mk' (HM4.out.later hb5)
              have HB5 := Hid.mk' (below_chain HB4.out hb5)
              clear hv5 hb5
              go_wp2_with fail
              refine (HCM.out w5 _ _ HM5.out HV5.out).mono ?_
              rintro e w6 ⟨rfl, hb6⟩
              have HM6 := Hid.mk' (HM5.out.later hb6)
              have HB6 := Hid.mk' (below_chain HB5.out hb6)
              clear hb6
              rcases Nat.lt_or_ge most (wholeP L p) with hbig | hbig
              · rw [cmpOf_gt hbig]
                have HX : Hid (∃ p, p ∈ l ∧ most < wholeP L p) := ⟨p, HPM.out, hbig⟩
                clear hbig
                go_wp2_with fail
                go_ret2
                refine ⟨fun hall => ?_, fun _ => rfl, below_chain HBE.out (below_chain HC.out HB6.out)⟩
                obtain ⟨q, hq, hgt⟩ := HX.out
                have := hall q hq
                rw [HLL.out] at this
                omega
              · have hcm : ¬ 0 < cmpOf (wholeP L p) most := by
                  rcases Nat.lt_or_ge (wholeP L p) most with h5 | h5
                  · rw [cmpOf_lt h5]; decide
                  · rw [cmpOf_eq (by omega)]; decide
                have HAN := Hid.mk' (HAK.out hbig)
                have hbi := BigInt_any (.slice n1 n2 n3) (wholeP L p) w6 HM6.out (by omega)
                generalize cmpOf (wholeP L p) most = cm at *
                generalize wholeP L p = N0 at *
                go_wp2_with fail
                refine hbi.mono ?_
                clear hbi
                rintro e w7 ⟨rfl, hw7⟩
                rw [hw7]
                clear hw7
                have HO6 := Hid.mk' (own_past HO.out HB6.out)
                have HC6 := Hid.mk' (below_chain HC.out HB6.out)
                have hzs := HC6.out.size
                go_wp2_with (at_builtin; go_must (refine wpList_append_lies _ rfl _ _ _ rfl we.heap.size 3 i0 _ 1 8 Tryz.underlying22 HINF.out.1 HINF.out.2.1 HINF.out.2.2.1 HINF.out.2.2.2 rfl (by omega) u15 _ _ rfl (HO6.out.alloc _) ⟨w6.heap.size, 0, none⟩ 1 1 [.int .i64 (N0 : Int)] rfl rfl (one_new _ _ _) (by simp [Value.oneCell']) (by omega) (by have := HLN.out; unfold maxLen; omega) (by have := HLN.out; omega) (by simp; omega) _ rfl ?_; intro g' cap2 w8 hown8 hgrow8 hat8 hlt8; have HO8 := Hid.mk' hown8; have HC8 := Hid.mk' (below_push HC6.out HO6.out hgrow8); clear hown8 hgrow8 hat8))
                refine ⟨⟨k + 1, h2, by go_num, ?_, HC8, HAN⟩, by simp [intOf]; omega⟩
                rw [HTK.out, cellL_append, List.length_append]
                exact HO8
            · obtain rfl : k = l.length := by omega
              have HTE : Hid (whT L l l.length = whL l) := by show _ = _; unfold whT whL; rw [List.take_length, HLL.out]
              have HLN : Hid ((whT L l l.length).length = l.length) := whT_length (Nat.le_refl _)
              have HALL : Hid (∀ p, p ∈ l → wholeP L p ≤ most) := fun p hp => by
                obtain ⟨j, hj, e⟩ := List.getElem_of_mem hp
                exact HA.out j p hj (by rw [← e]; simp)
              go_wp2_with fail
              go_ret2
              refine ⟨fun _ => ⟨_, rfl, ?_⟩, fun hx => ?_, below_chain HBE.out HC.out⟩
              · have := HO.out
                rw [HLN.out, HTE.out] at this
                exact this.mono HBE.out.size
              · obtain ⟨q, hq, hgt⟩ := hx
                have := HALL.out q hq
                rw [HLL.out] at hgt
                omega
end Go.Proofs.YtphecjjblnnjdaaGreatDoor
