/- The document's table of what goes in and comes out. -/
import Derived.Test.YtnihclkaaglnjaaDoorCnWh
import Derived.Test.YtnihclkaaglnjaaDoorCnErr
import Derived.Test.YtnihclkaaglnjaaDoorCnNoisy
namespace Go.Proofs.YtnihclkaaglnjaaDoor
open Go.RowKit

/-- The lists of both sides are one. -/
theorem whL_flat (C : Nat) (f : Nat → Nat → Nat × Nat) (L : Nat) : ∀ R, (flatF C f R).map (fun p => (wholeP L p : Int)) = flatL (fun _ => C) (fun i k => (wholeP L (f i k) : Int)) R
  | 0 => rfl
  | R + 1 => by
    have h := whL_flat C f L R
    show (flatF C f R ++ (List.range C).map (f R)).map _ = flatL (fun _ => C) _ R ++ rowL _ C
    rw [List.map_append, h, List.map_map]
    rfl
theorem whL_out (n : Nat) (z : Nat → Int) (R C : Nat) (zs : Nat → Nat → Int) : whL (flatF C (inF n z C zs) R) = flatL (fun _ => C) (outZ n z R C zs) R := whL_flat C _ _ R
theorem sumN_list : ∀ l : List Int, sumN (atF l) l.length = l.sum := by
  have h : ∀ n, ∀ l : List Int, l.length = n → sumN (atF l) l.length = l.sum := by
    intro n
    induction n with
    | zero => intro l hl; rw [List.length_eq_zero_iff.mp hl]; rfl
    | succ n ih =>
      intro l hl
      have hne : l ≠ [] := fun e => by rw [e] at hl; simp at hl
      have e := List.dropLast_concat_getLast hne
      have hd : l.dropLast.length = n := by simp; omega
      have h1 := ih _ hd
      have h2 : sumN (atF l) (n + 1) = sumN (atF l) n + atF l n := rfl
      have h3 : sumN (atF l) n = sumN (atF l.dropLast) n := sumN_congr fun i hi => by
        unfold atF
        rw [List.getD_eq_getElem?_getD, List.getD_eq_getElem?_getD, List.getElem?_dropLast, if_pos (by omega)]
      have h4 : atF l n = l.getLast hne := by
        unfold atF
        rw [List.getD_eq_getElem?_getD, List.getLast_eq_getElem]
        simp [hl]
      rw [hl, h2, h3, h4]
      rw [hd] at h1
      rw [h1]
      conv => rhs; rw [← e]
      simp
  exact fun l => h _ l rfl
theorem sum_cast (L : Nat) : ∀ l : List (Nat × Nat), (l.map (fun p => (wholeP L p : Int))).sum = ((sumP L l : Nat) : Int)
  | [] => rfl
  | p :: r => by
    have h := sum_cast L r
    have e : sumP L (p :: r) = wholeP L p + sumP L r := by simp [sumP]
    rw [e, List.map_cons, List.sum_cons, h]
    simp
theorem wholeP_le_sum {L : Nat} : ∀ {l : List (Nat × Nat)} {p : Nat × Nat}, p ∈ l → wholeP L p ≤ sumP L l
  | q :: r, p, h => by
    have e : sumP L (q :: r) = wholeP L q + sumP L r := by simp [sumP]
    rw [e]
    rcases List.mem_cons.mp h with rfl | h
    · omega
    · have := wholeP_le_sum (L := L) h
      omega
theorem longB_const {C : Nat} (hC : C ≤ 16) : ∀ R, longB (fun _ => C) R = false
  | 0 => rfl
  | R + 1 => by show (longB (fun _ => C) R || decide (16 < C)) = false; rw [longB_const hC R, decide_eq_false (by omega)]; rfl
theorem unevenB_const (C : Nat) : ∀ R, unevenB (fun _ => C) R = false
  | 0 => rfl
  | R + 1 => by show (unevenB (fun _ => C) R || _) = false; rw [unevenB_const C R]; simp
theorem sumT_const (C : Nat) : ∀ R, sumT (fun _ => C) R = R * C
  | 0 => by simp [sumT]
  | R + 1 => by show sumT (fun _ => C) R + C = _; rw [sumT_const C R, Nat.succ_mul]
/-- The table's own error: only its sum can be too great. -/
theorem tabErr_out {n : Nat} {z : Nat → Int} {R C : Nat} {zs : Nat → Nat → Int} (h : InOk n z R C zs) : tabErr R (fun _ => C) (outZ n z R C zs) = if 4096 < inL n z R C zs then 2 else 0 := by
  have h16 := h.n16
  rw [tabErr_even (by omega) (longB_const h.c16 R) (unevenB_const C R)]
  have hs : sumN (atF (flatL (fun _ => C) (outZ n z R C zs) R)) (flatL (fun _ => C) (outZ n z R C zs) R).length = (inL n z R C zs : Int) := by
    rw [sumN_list, ← whL_out]
    unfold whL
    rw [sum_cast]
    have := h.sum
    unfold inL at this ⊢
    rw [this]
  have hnn : ∀ i, i < (flatL (fun _ => C) (outZ n z R C zs) R).length → 0 ≤ atF (flatL (fun _ => C) (outZ n z R C zs) R) i := fun i hi => by
    rw [← whL_out] at hi ⊢
    unfold atF whL at *
    rw [List.getD_eq_getElem?_getD, List.getElem?_map]
    cases e : (flatF C (inF n z C zs) R)[i]? with
    | none => simp
    | some p => simp
  have hneg : negB (atF (flatL (fun _ => C) (outZ n z R C zs) R)) (flatL (fun _ => C) (outZ n z R C zs) R).length = false := by
    cases e : negB (atF (flatL (fun _ => C) (outZ n z R C zs) R)) (flatL (fun _ => C) (outZ n z R C zs) R).length with
    | false => rfl
    | true =>
      obtain ⟨i, hi, hn⟩ := (negB_iff _ _).1 e
      have := hnn i hi
      omega
  have hLp : 0 < inL n z R C zs := lcmP_pos _ fun p hp => by
    obtain ⟨i, k, hi, hk, rfl⟩ := flatF_mem hp
    exact (h.low hi k).1
  have hsome : someB (atF (flatL (fun _ => C) (outZ n z R C zs) R)) (flatL (fun _ => C) (outZ n z R C zs) R).length = true := by
    cases e : someB (atF (flatL (fun _ => C) (outZ n z R C zs) R)) (flatL (fun _ => C) (outZ n z R C zs) R).length with
    | true => rfl
    | false =>
      exfalso
      have hz : ∀ i, i < (flatL (fun _ => C) (outZ n z R C zs) R).length → atF (flatL (fun _ => C) (outZ n z R C zs) R) i = (fun _ => 0) i := fun i hi => by
        have h1 := hnn i hi
        have h2 : ¬ 0 < atF (flatL (fun _ => C) (outZ n z R C zs) R) i := fun hp => by
          have := (someB_iff _ _).2 ⟨i, hi, hp⟩
          rw [e] at this; cases this
        show _ = (0 : Int)
        omega
      rw [sumN_congr hz] at hs
      have h0 : ∀ m, sumN (fun _ => 0) m = 0 := by
        intro m
        induction m with
        | zero => rfl
        | succ m ih => show sumN (fun _ => 0) m + 0 = 0; rw [ih]; rfl
      rw [h0] at hs
      omega
  by_cases hg : 4096 < inL n z R C zs
  · rw [if_pos hg]
    exact listErr_great hneg hsome (by rw [hs]; omega)
  · rw [if_neg hg]
    exact listErr_none0 hneg hsome (by rw [hs]; omega)

set_option maxRecDepth 100000 in
theorem InError_any (u : Value) (n : Nat) (z : Nat → Int) (v : Value) (R : Nat) (vs : Nat → Value) (ns : Nat → Nat) (zs : Nat → Nat → Int) (w : World) (hu : NumsAt w u n z) (h : TabAt w v R vs ns zs) (hn : n ≤ 1000) (hR : R ≤ 40) (hns : ∀ i, i < R → ns i ≤ 400) :
    Calls Tryd.prog 30 #[u, v] w fun e w' => e = .returned (.int .i64 (inErr n z R ns zs : Nat)) ∧ Below w.heap.size w w' := by
  have hC := ChannelError_any v R vs ns zs w h (by omega) (fun i hi => by have := hns i hi; omega)
  have HW : Hid (∀ W, Below w.heap.size w W → Calls Tryd.prog 48 #[u] W fun e w' => e = .returned (.int .i64 (weightsErr z n : Int)) ∧ w' = W) := fun W hb => WeightsError_any _ n z W (hu.later hb) (by omega)
  obtain ⟨ad, cap, rfl⟩ := hu.form
  obtain ⟨ad', cap', rfl⟩ := h.form
  have HE : Hid (inErr n z R ns zs = if chanErr R ns zs ≠ 0 then chanErr R ns zs else if weightsErr z n ≠ 0 then weightsErr z n else if n ≠ R then 3 else 0) := rfl
  generalize inErr n z R ns zs = ie at *
  have hcl := chanErr_le R ns zs
  have hwl := weightsErr_le z n
  generalize chanErr R ns zs = c at *
  generalize weightsErr z n = d at *
  clear h hu hns
  by_cases h1 : c = 0
  · subst h1
    rw [if_neg (by simp)] at HE
    by_cases h2 : d = 0
    · subst h2
      rw [if_neg (by simp)] at HE
      by_cases h3 : n = R
      · subst h3
        rw [if_neg (by simp)] at HE
        have hnb : ((n : Int) != (n : Int)) = false := by simp
        go_enter Tryd.func30, Tryd.ntmps30
        go_wp2_with fail
        refine hC.mono ?_
        rintro e w1 ⟨rfl, hb1⟩
        have HB1 := Hid.mk' hb1
        clear hb1
        go_wp2_with fail
        refine (HW.out w1 HB1.out).mono ?_
        rintro e w2 ⟨rfl, hw2⟩
        rw [hw2]
        clear hw2
        go_wp2_with fail
        go_ret
        exact ⟨ret_int (by rw [HE.out]; rfl), HB1.out⟩
      · rw [if_pos h3] at HE
        have hnb : ((n : Int) != (R : Int)) = true := by rw [bne_iff_ne]; omega
        go_enter Tryd.func30, Tryd.ntmps30
        go_wp2_with fail
        refine hC.mono ?_
        rintro e w1 ⟨rfl, hb1⟩
        have HB1 := Hid.mk' hb1
        clear hb1
        go_wp2_with fail
        refine (HW.out w1 HB1.out).mono ?_
        rintro e w2 ⟨rfl, hw2⟩
        rw [hw2]
        clear hw2
        go_wp2_with fail
        go_ret
        exact ⟨ret_int (by rw [HE.out]; rfl), HB1.out⟩
    · rw [if_pos h2] at HE
      have hdb : ((d : Int) == 0) = false := by rw [beq_eq_false_iff_ne]; omega
      go_enter Tryd.func30, Tryd.ntmps30
      go_wp2_with fail
      refine hC.mono ?_
      rintro e w1 ⟨rfl, hb1⟩
      have HB1 := Hid.mk' hb1
      clear hb1
      go_wp2_with fail
      refine (HW.out w1 HB1.out).mono ?_
      rintro e w2 ⟨rfl, hw2⟩
      rw [hw2]
      clear hw2
      go_wp2_with fail
      go_ret
      exact ⟨ret_int (by rw [HE.out]), HB1.out⟩
  · rw [if_pos h1] at HE
    have hdb : ((c : Int) == 0) = false := by rw [beq_eq_false_iff_ne]; omega
    go_enter Tryd.func30, Tryd.ntmps30
    go_wp2_with fail
    refine hC.mono ?_
    rintro e w1 ⟨rfl, hb1⟩
    have HB1 := Hid.mk' hb1
    clear hb1
    go_wp2_with fail
    go_ret
    exact ⟨ret_int (by rw [HE.out]), HB1.out⟩

/-- A table, whatever its rows' slices are. -/
def TabIs (w : World) (v : Value) (R : Nat) (ns : Nat → Nat) (zs : Nat → Nat → Int) : Prop := ∃ vs, TabAt w v R vs ns zs
set_option maxRecDepth 100000 in
set_option maxHeartbeats 2000000 in
theorem cut_any (g cap R C : Nat) (z : Nat → Int) (w : World) (h : RowAt w g 0 (R * C) z) (hcap : R * C ≤ cap) (hR : R ≤ 16) (hC : C ≤ 16) (hR0 : 0 < R) (hC0 : 0 < C) :
    Calls Tryd.prog 34 #[.slice (some ⟨g, 0, none⟩) (R * C) cap, .int .i64 (C : Int)] w fun e w' => ∃ v', e = .returned v' ∧ TabIs w' v' R (fun _ => C) (fun i k => z (i * C + k)) ∧ Below w.heap.size w w' := by
  obtain ⟨i0, hi, hz0, hz1, hz2⟩ := info_parts Tryd.infoInts
  have HINF : Hid (Tryd.prog.info? 31 = some i0 ∧ i0.zero = some (.slice none 0 0) ∧ i0.size = 1 ∧ i0.bytes = 24) := ⟨hi, hz0, hz1, hz2⟩
  have HR := Hid.mk' (fun (W : World) (hb : Below w.heap.size w W) => h.later hb)
  have hRC : R * C ≤ 256 := Nat.le_trans (Nat.mul_le_mul hR hC) (by decide)
  clear hi hz0 hz1 hz2 h
  generalize hM : R * C = M at *
  have HM := Hid.mk' hM
  clear hM
  go_enter Tryd.func34, Tryd.ntmps34
  go_wp2_with fail
  go_loopw [5, 6] (fun s t wr => ∃ k : Nat, k ≤ R ∧ t = .int .i64 ((k * C : Nat) : Int) ∧ Hid (wr.ownsRow w.heap.size 31 1 s k (rowV (fun i => .slice (some ⟨g, i * C, none⟩) C (cap - i * C)) k)) ∧ Hid (Below w.heap.size w wr)) (fun _ t _ => M - (intOf t).toNat)
  case atStart => exact ⟨0, Nat.zero_le _, by simp, World.ownsRow_nil _ _ _ _, Below.refl _ _⟩
  case round =>
    obtain ⟨k, hk, rfl, HO, HB⟩ := hrel
    rcases Nat.lt_or_ge k R with h1 | h1
    · have hkC : k * C + C ≤ M := by rw [← HM.out, ← Nat.succ_mul]; exact Nat.mul_le_mul_right _ h1
      have HKS : Hid ((k + 1) * C = k * C + C) := Nat.succ_mul k C
      have HRV : Hid (rowV (fun i => .slice (some ⟨g, i * C, none⟩) C (cap - i * C)) (k + 1) = rowV (fun i => .slice (some ⟨g, i * C, none⟩) C (cap - i * C)) k ++ [.slice (some ⟨g, k * C, none⟩) C (cap - k * C)]) := by
        show _ = _
        unfold rowV
        rw [List.range_succ]; simp
      have hsz := HB.out.size
      generalize hkc : k * C = kc at *
      have HKC := Hid.mk' hkc
      clear hkc
      have hle : ((kc : Int) + (C : Int)) ≤ (M : Int) := by omega
      go_wp2_with (at_builtin; go_must (refine wpList_append_lies _ rfl _ _ _ rfl w.heap.size 31 i0 _ 1 24 Tryd.underlying22 HINF.out.1 HINF.out.2.1 HINF.out.2.2.1 HINF.out.2.2.2 rfl (by omega) u5 _ _ rfl (HO.out.alloc _) ⟨wr.heap.size, 0, none⟩ 1 1 [_] rfl rfl (one_new _ _ _) (by simp [Value.oneCell']) (by omega) (by unfold maxLen; omega) (by omega) (by simp; omega) _ rfl ?_; intro g' cap2 w5 hown5 hgrow5 hat5 hlt5; have HO5 := Hid.mk' hown5; have HB5 := Hid.mk' (below_push HB.out HO.out hgrow5); clear hown5 hgrow5 hat5))
      refine ⟨⟨k + 1, h1, ?_, ?_, HB5⟩, by simp [intOf]; omega⟩
      · rw [HKS.out]; go_num
      · rw [HRV.out]; exact HO5
    · obtain rfl : k = R := by omega
      have hle : ¬ ((M : Int) + (C : Int)) ≤ (M : Int) := by omega
      rw [HM.out]
      go_wp2_with fail
      go_ret
      refine ⟨_, rfl, ⟨_, tabAt_of_row HO.out (fun i hi => ?_)⟩, HB.out⟩
      refine Or.inr ⟨g, i * C, cap - i * C, rfl, hC0, fun j hj => ?_⟩
      have h5 : i * C + C ≤ M := by rw [← HM.out, ← Nat.succ_mul]; exact Nat.mul_le_mul_right _ hi
      have := HR.out wr HB.out (i * C + j) (by omega)
      rw [Nat.zero_add] at this
      exact this

theorem flatL_at {C : Nat} {Z : Nat → Nat → Int} : ∀ {R i k : Nat}, i < R → k < C → atF (flatL (fun _ => C) Z R) (i * C + k) = Z i k
  | R + 1, i, k, hi, hk => by
    have hl : (flatL (fun _ => C) Z R).length = R * C := by rw [flatL_length, sumT_const]
    unfold atF
    show (flatL (fun _ => C) Z R ++ rowL (Z R) C).getD (i * C + k) 0 = _
    rw [List.getD_eq_getElem?_getD]
    rcases Nat.lt_or_ge i R with h | h
    · have h5 : i * C + C ≤ R * C := by rw [← Nat.succ_mul]; exact Nat.mul_le_mul_right _ h
      rw [List.getElem?_append_left (by rw [hl]; omega), ← List.getD_eq_getElem?_getD]
      exact flatL_at h hk
    · obtain rfl : i = R := by omega
      rw [List.getElem?_append_right (by rw [hl]; omega), hl, show i * C + k - i * C = k by omega, ← List.getD_eq_getElem?_getD]
      exact atF_rowL hk
set_option maxRecDepth 100000 in
set_option maxHeartbeats 4000000 in
theorem TableOf_any (u : Value) (n : Nat) (z : Nat → Int) (v : Value) (R : Nat) (vs : Nat → Value) (ns : Nat → Nat) (zs : Nat → Nat → Int) (w : World) (hu : NumsAt w u n z) (h : TabAt w v R vs ns zs) (hn : n ≤ 1000) (hR : R ≤ 40) (hns : ∀ i, i < R → ns i ≤ 400) :
    Calls Tryd.prog 14 #[u, v] w fun e w' => ∃ t', e = .returned (.tuple #[t', .int .i64 (taErr n z R ns zs : Nat)]) ∧ (taErr n z R ns zs ≠ 0 → t' = .slice none 0 0) ∧ (taErr n z R ns zs = 0 → TabIs w' t' R (fun _ => ns 0) (outZ n z R (ns 0) zs)) ∧ Below w.heap.size w w' := by
  have hI := InError_any u n z v R vs ns zs w hu h hn hR hns
  have HTL := Hid.mk' (inErr_le n z R ns zs)
  by_cases he : inErr n z R ns zs = 0
  · obtain ⟨hok, hev⟩ := inOk_of he
    have HOK := Hid.mk' hok
    have HCH : Hid (∀ W, Below w.heap.size w W → Calls Tryd.prog 32 #[u, v] W fun e w' => ∃ v', e = .returned v' ∧ RtAt w' v' (flatF (ns 0) (inF n z (ns 0) zs) R) ∧ Below W.heap.size W w') := fun W hb => Chances_any u n z v R vs ns zs W (hu.later hb) (h.later hb) he
    have HTA : Hid (taErr n z R ns zs = if 4096 < inL n z R (ns 0) zs then 2 else 0) := by show _ = _; unfold taErr; rw [if_neg (by omega)]
    have HTE := Hid.mk' (tabErr_out hok)
    have HFB : Hid (∀ p, p ∈ flatF (ns 0) (inF n z (ns 0) zs) R → 0 < p.2 ∧ p.2 ≤ 1000000000 ∧ p.1 ≤ 1000000000) := fun p hp => by
      obtain ⟨i, k, hi, hk, rfl⟩ := flatF_mem hp
      obtain ⟨_, _, _, _, h5, h6, h7⟩ := hok.bounds hi hk
      exact ⟨h5, by omega, by omega⟩
    have HFL : Hid ((flatF (ns 0) (inF n z (ns 0) zs) R).length = R * ns 0) := flatF_length _ _ _
    have h16 := hok.n16
    have h0 := hok.n0
    have hC16 := hok.c16
    have hC0 := hok.c0
    have hRC : R * ns 0 ≤ 256 := Nat.le_trans (Nat.mul_le_mul h16 hC16) (by decide)
    have HC0 : Hid (∀ W, Below w.heap.size w W → ∃ rad rcap b o cap, v = .slice (some ⟨b, o, none⟩) R cap ∧ W.cell? ⟨b, o, none⟩ = some (.slice rad (ns 0) rcap)) := fun W hb => by
      rcases h.later hb with ⟨_, _, _, h1⟩ | ⟨b, o, cap, h1, _, h2⟩
      · omega
      · obtain ⟨h3, h4⟩ := h2 0 h0
        obtain ⟨rad, rcap, hre⟩ := h4.form
        rw [hre, Nat.add_zero] at h3
        exact ⟨rad, rcap, b, o, cap, h1, h3⟩
    have HMX : Hid (∀ p, p ∈ flatF (ns 0) (inF n z (ns 0) zs) R → wholeP (inL n z R (ns 0) zs) p ≤ inL n z R (ns 0) zs) := fun p hp => by
      have := wholeP_le_sum (L := inL n z R (ns 0) zs) hp
      rw [hok.sum] at this
      exact this
    obtain ⟨ad, cap, rfl⟩ := hu.form
    obtain ⟨ad', cap', rfl⟩ := h.form
    rw [he] at hI
    clear hu h hns hev he hok
    go_enter Tryd.func14, Tryd.ntmps14
    go_wp2_with fail
    refine hI.mono ?_
    rintro e w1 ⟨rfl, hb1⟩
    have HB1 := Hid.mk' hb1
    clear hb1 hI
    go_wp2_with fail
    refine (HCH.out w1 HB1.out).mono ?_
    rintro e w2 ⟨v2, rfl, hv2, hb2⟩
    have hW := Whole_any v2 _ 4096 w2 hv2 HFB.out (by rw [HFL.out]; omega) (by omega) HOK.out.gcd
    have HB2 := Hid.mk' (below_chain HB1.out hb2)
    obtain ⟨a2, c2, hv2e, _⟩ := hv2
    rw [hv2e] at hW ⊢
    clear hb2 hv2e
    go_wp2_with fail
    refine hW.mono ?_
    clear hW
    rintro e w3 ⟨hgood, hbad, hb3⟩
    have HB3 := Hid.mk' (below_chain HB2.out hb3)
    clear hb3
    by_cases hall : ∀ p, p ∈ flatF (ns 0) (inF n z (ns 0) zs) R → wholeP (lcmP (flatF (ns 0) (inF n z (ns 0) zs) R)) p ≤ 4096
    · obtain ⟨v3, rfl, hown3⟩ := hgood hall
      have hnum := numsAt_row (l := whL (flatF (ns 0) (inF n z (ns 0) zs) R)) (by rw [show (whL (flatF (ns 0) (inF n z (ns 0) zs) R)).length = (flatF (ns 0) (inF n z (ns 0) zs) R).length by simp [whL]]; exact hown3)
      rw [HFL.out] at hown3
      obtain ⟨g3, cap3, rfl, hge3, hcap3, hcm3⟩ : ∃ g cap, v3 = .slice (some ⟨g, 0, none⟩) (R * ns 0) cap ∧ w2.heap.size ≤ g ∧ R * ns 0 ≤ cap ∧ cap ≤ maxLen := by
        rcases hown3.2 with ⟨rfl, hx⟩ | ⟨g, cap, cur, rfl, hb, _, hc, hm, _⟩
        · have := Nat.mul_pos h0 hC0
          omega
        · exact ⟨g, cap, rfl, hb, hc, hm⟩
      have hrow : RowAt w3 g3 0 (R * ns 0) (atF (flatL (fun _ => ns 0) (outZ n z R (ns 0) zs) R)) := by
        rw [whL_out] at hnum
        rcases hnum with ⟨_, _, h5, h6⟩ | ⟨b, o, c, h5, h6, h7⟩
        · rw [flatL_length, sumT_const] at h6
          have := Nat.mul_pos h0 hC0
          omega
        · simp only [Value.slice.injEq, Option.some.injEq, Addr.mk.injEq, and_true] at h5
          obtain ⟨⟨rfl, rfl⟩, h8, _⟩ := h5
          rw [← h8] at h7
          exact h7
      have HCUT : Hid (∀ W, Below w3.heap.size w3 W → Calls Tryd.prog 34 #[.slice (some ⟨g3, 0, none⟩) (R * ns 0) cap3, .int .i64 (ns 0 : Int)] W fun e w' => ∃ v', e = .returned v' ∧ TabIs w' v' R (fun _ => ns 0) (outZ n z R (ns 0) zs) ∧ Below W.heap.size W w') := fun W hb => by
        refine (cut_any g3 cap3 R (ns 0) _ W (hrow.later hb) hcap3 h16 hC16 h0 hC0).mono ?_
        rintro e w' ⟨v', rfl, ⟨vs', hv'⟩, hbw⟩
        refine ⟨v', rfl, ⟨vs', ?_⟩, hbw⟩
        rcases hv' with h5 | ⟨b, o, c, h5, h6, h7⟩
        · exact Or.inl h5
        · exact Or.inr ⟨b, o, c, h5, h6, fun i hi => ⟨(h7 i hi).1, (h7 i hi).2.congr fun k hk => flatL_at hi hk⟩⟩
      clear hgood hbad hnum hown3 hrow hcap3 hcm3 hge3 hall
      obtain ⟨rad, rcap, b, o, cap5, hve, hc0⟩ := HC0.out w3 HB3.out
      simp only [Value.slice.injEq, true_and] at hve
      obtain ⟨rfl, rfl⟩ := hve
      generalize hMM : R * ns 0 = M at *
      clear hMM
      go_wp2_with fail
      refine (HCUT.out w3 (Below.refl _ _)).mono ?_
      rintro e w4 ⟨v4, rfl, ⟨vs4, hv4⟩, hb4⟩
      have hTE := TableError_any v4 R vs4 (fun _ => ns 0) _ w4 hv4 (by omega) (by rw [sumT_const]; exact Nat.le_trans (Nat.mul_le_mul h16 hC16) (by decide))
      rw [HTE.out] at hTE
      obtain ⟨a4, c4, hv4e⟩ := hv4.form
      have HB4 := Hid.mk' hb4
      rw [hv4e] at hTE ⊢
      clear hv4 hb4 hv4e
      by_cases hbig : 4096 < inL n z R (ns 0) zs
      · rw [if_pos hbig] at hTE HTA
        go_wp2_with fail
        refine hTE.mono ?_
        clear hTE
        rintro e w5 ⟨rfl, hb5⟩
        have HB5 := Hid.mk' (below_chain HB3.out (below_chain HB4.out hb5))
        clear hb5
        go_wp2_with fail
        go_ret2
        exact ⟨_, by rw [HTA.out]; rfl, fun _ => rfl, (fun h => by rw [HTA.out] at h; cases h), HB5.out⟩
      · rw [if_neg hbig] at hTE HTA
        go_wp2_with fail
        refine hTE.mono ?_
        clear hTE
        rintro e w5 ⟨rfl, hb5⟩
        have HB35 := Hid.mk' (below_chain HB4.out hb5)
        have HB5 := Hid.mk' (below_chain HB3.out HB35.out)
        have hc5 : w5.cell? ⟨b, o, none⟩ = some (.slice rad (ns 0) rcap) := by rw [HB35.out.cell (cell_lt hc0)]; exact hc0
        clear hb5 hc0
        go_wp2_with fail
        refine (HCUT.out w5 HB35.out).mono ?_
        rintro e w6 ⟨v6, rfl, hv6, hb6⟩
        have HV6 := Hid.mk' hv6
        obtain ⟨vs6, hv6'⟩ := hv6
        obtain ⟨a6, c6, rfl⟩ := hv6'.form
        have HB6 := Hid.mk' (below_chain HB5.out hb6)
        clear hv6' hb6
        go_wp2_with fail
        go_ret2
        exact ⟨_, by rw [HTA.out]; rfl, fun h => absurd HTA.out h, fun _ => HV6.out, HB6.out⟩
    · have hx : ∃ p, p ∈ flatF (ns 0) (inF n z (ns 0) zs) R ∧ 4096 < wholeP (lcmP (flatF (ns 0) (inF n z (ns 0) zs) R)) p := by
        by_cases hex : ∃ p, p ∈ flatF (ns 0) (inF n z (ns 0) zs) R ∧ 4096 < wholeP (lcmP (flatF (ns 0) (inF n z (ns 0) zs) R)) p
        · exact hex
        · exact absurd (fun p hp => by
            rcases Nat.lt_or_ge 4096 (wholeP (lcmP (flatF (ns 0) (inF n z (ns 0) zs) R)) p) with h5 | h5
            · exact absurd ⟨p, hp, h5⟩ hex
            · exact h5) hall
      have e3 := hbad hx
      subst e3
      have hbig : 4096 < inL n z R (ns 0) zs := by
        obtain ⟨p, hp, h5⟩ := hx
        have := HMX.out p hp
        unfold inL at this ⊢
        omega
      rw [if_pos hbig] at HTA
      clear hgood hbad hx hall
      go_wp2_with fail
      go_ret2
      exact ⟨_, by rw [HTA.out]; rfl, fun _ => rfl, (fun h => by rw [HTA.out] at h; cases h), HB3.out⟩
  · have HTA : Hid (taErr n z R ns zs = inErr n z R ns zs) := by show _ = _; unfold taErr; rw [if_pos he]
    obtain ⟨ad, cap, rfl⟩ := hu.form
    obtain ⟨ad', cap', rfl⟩ := h.form
    have HNE := Hid.mk' he
    have hpos : (0 : Int) < (inErr n z R ns zs : Int) := by omega
    generalize inErr n z R ns zs = ie at *
    clear hu h hns he
    go_enter Tryd.func14, Tryd.ntmps14
    go_wp2_with fail
    refine hI.mono ?_
    rintro e w1 ⟨rfl, hb1⟩
    have HB1 := Hid.mk' hb1
    clear hb1 hI
    go_wp2_with fail
    go_ret2
    exact ⟨_, by rw [HTA.out]; rfl, fun _ => rfl, fun h => by rw [HTA.out] at h; exact absurd h HNE.out, HB1.out⟩
end Go.Proofs.YtnihclkaaglnjaaDoor
