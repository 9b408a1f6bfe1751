/- secret.Valid: which ciphers are right. -/
import Derived.Test.YtdlbnolnkmhdcaaDoorSkRow
import Derived.Test.YtdlbnolnkmhdcaaDoorTab
namespace Go.Proofs.YtdlbnolnkmhdcaaDoor
open Go.RowKit

/-- A wrong row among the first k. -/
def badC (ns : Nat → Nat) (zs : Nat → Nat → Int) : Nat → Bool
  | 0 => false
  | k + 1 => badC ns zs k || (decide (ns k = 0 ∨ ns k ≠ ns 0) || !rowB (zs k) (ns k))
def ciErr (n : Nat) (z : Nat → Int) (R : Nat) (ns : Nat → Nat) (zs : Nat → Nat → Int) : Nat := if weightsErr z n ≠ 0 then weightsErr z n else if R ≠ n then 3 else if badC ns zs R = true then 3 else 0
theorem badC_at {ns : Nat → Nat} {zs : Nat → Nat → Int} {k R : Nat} (hk : k < R) (h : ns k = 0 ∨ ns k ≠ ns 0 ∨ rowB (zs k) (ns k) = false) : badC ns zs R = true := by
  induction R with
  | zero => omega
  | succ R ih =>
    rcases Nat.lt_or_ge k R with h1 | h1
    · simp [badC, ih h1]
    · obtain rfl : k = R := by omega
      rcases h with h | h | h
      · simp [badC, h]
      · simp [badC, h]
      · simp [badC, h]
theorem badC_step {ns : Nat → Nat} {zs : Nat → Nat → Int} {k : Nat} (h : badC ns zs k = false) (h0 : ns k ≠ 0) (h1 : ns k = ns 0) (h2 : rowB (zs k) (ns k) = true) : badC ns zs (k + 1) = false := by
  have : ¬ (ns k = 0 ∨ ns k ≠ ns 0) := by omega
  simp only [badC, h, h2, decide_eq_false this]
  rfl
theorem badC_none {ns : Nat → Nat} {zs : Nat → Nat → Int} {R : Nat} (h : badC ns zs R = false) {i : Nat} (hi : i < R) : ns i ≠ 0 ∧ ns i = ns 0 ∧ rowB (zs i) (ns i) = true := by
  refine ⟨fun e => ?_, ?_, ?_⟩
  · rw [badC_at hi (Or.inl e)] at h; cases h
  · by_cases e : ns i = ns 0
    · exact e
    · rw [badC_at hi (Or.inr (Or.inl e))] at h; cases h
  · cases e : rowB (zs i) (ns i) with
    | true => rfl
    | false => rw [badC_at hi (Or.inr (Or.inr e))] at h; cases h
theorem ciErr_le (n : Nat) (z : Nat → Int) (R : Nat) (ns : Nat → Nat) (zs : Nat → Nat → Int) : ciErr n z R ns zs ≤ 3 := by
  have := weightsErr_le z n
  unfold ciErr
  repeat (split; omega)
  omega
/-- A right cipher. -/
structure OkC (n : Nat) (z : Nat → Int) (R : Nat) (ns : Nat → Nat) (zs : Nat → Nat → Int) : Prop where
  few : n ≤ 16
  w : OkW z n
  same : R = n
  len0 : 0 < ns 0
  len : ∀ i, i < n → ns i = ns 0
  row : ∀ i, i < n → rowB (zs i) (ns 0) = true
theorem ciErr_ok {n : Nat} {z : Nat → Int} {R : Nat} {ns : Nat → Nat} {zs : Nat → Nat → Int} (h : ciErr n z R ns zs = 0) : OkC n z R ns zs := by
  unfold ciErr at h
  by_cases h1 : weightsErr z n ≠ 0
  · rw [if_pos h1] at h; exact absurd h h1
  · rw [if_neg h1] at h
    by_cases h2 : R ≠ n
    · rw [if_pos h2] at h; cases h
    · rw [if_neg h2] at h
      cases h3 : badC ns zs R with
      | true => rw [h3, if_pos rfl] at h; cases h
      | false =>
        obtain ⟨h4, h5⟩ := weightsErr_ok (by omega : weightsErr z n = 0)
        have h0 := h5.posN
        have hR : R = n := by omega
        subst hR
        have hb := fun i (hi : i < R) => badC_none h3 hi
        exact ⟨h4, h5, rfl, by have := (hb 0 h0).1; omega, fun i hi => (hb i hi).2.1, fun i hi => by have := hb i hi; rw [← this.2.1]; exact this.2.2⟩
/-- No row of right signs is longer than there are signs. -/
theorem pigeon : ∀ (m : Nat) (l : List Nat), l.Nodup → (∀ x ∈ l, x < m) → l.length ≤ m
  | 0, l, _, h => by
    rcases l with _ | ⟨x, l⟩
    · simp
    · have := h x List.mem_cons_self; omega
  | m + 1, l, hd, h => by
    by_cases hm : m ∈ l
    · have h1 := pigeon m (l.erase m) (hd.erase m) (fun x hx => by
        have h2 := h x (List.mem_of_mem_erase hx)
        have h3 : x ≠ m := fun e => by
          subst e
          exact absurd hx (by rw [List.Nodup.mem_erase_iff hd]; simp)
        omega)
      have h2 := List.length_erase_of_mem hm
      omega
    · have := pigeon m l hd (fun x hx => by
        have h2 := h x hx
        have h3 : x ≠ m := fun e => hm (e ▸ hx)
        omega)
      omega
theorem injNat {f : Nat → Nat} {n m : Nat} (hlt : ∀ i, i < n → f i < m) (hinj : ∀ i j, i < j → j < n → f i ≠ f j) : n ≤ m := by
  have h := pigeon m ((List.range n).map f) (by
    rw [List.Nodup, List.pairwise_map]
    refine List.Pairwise.imp_of_mem (R := fun a b => a < b) ?_ List.pairwise_lt_range
    intro a b ha hb hab
    exact hinj a b hab (List.mem_range.mp hb)) (fun x hx => by
      obtain ⟨i, hi, rfl⟩ := List.mem_map.mp hx
      exact hlt i (List.mem_range.mp hi))
  simpa using h
theorem rowB_short {z : Nat → Int} {n : Nat} (h : rowB z n = true) : n ≤ 16 := by
  have h1 := (rowB_iff z n).1 h
  refine injNat (f := fun i => (z i).toNat) (fun i hi => ?_) (fun i j hij hj e => ?_)
  · have := (h1 i hi).1; show (z i).toNat < 16; omega
  · have h2 := (h1 i (by omega)).1
    have h3 := (h1 j hj).1
    have e' : (z i).toNat = (z j).toNat := e
    exact (h1 j hj).2 i hij (by omega)

set_option maxRecDepth 100000 in
set_option maxHeartbeats 4000000 in
theorem SkValid_any (a : Nat → Addr) (kv lv : Value) (n : Nat) (z : Nat → Int) (R : Nat) (vs : Nat → Value) (ns : Nat → Nat) (zs : Nat → Nat → Int) (w : World) (hE : Errs w a) (hk : NumsAt w kv n z) (hl : TabAt w lv R vs ns zs) (hn : n ≤ 1000000) (hR : R ≤ 1000000) (hns : ∀ i, i < R → ns i ≤ 1000000) :
    Calls Tryd.prog 22 #[.agg #[kv, lv]] w fun e w' => e = .returned (errV a (ciErr n z R ns zs)) ∧ Below w.heap.size w w' := by
  obtain ⟨ka, kc, rfl⟩ := hk.form
  obtain ⟨la, lc, rfl⟩ := hl.form
  obtain ⟨w1, hw1⟩ : ∃ w1, w1 = w.alloc (.cells #[.slice ka n kc, .slice la R lc] 36) := ⟨_, rfl⟩
  have hb1 : Below w.heap.size w w1 := by rw [hw1]; exact (Below.refl _ _).alloc (Nat.le_refl _) _
  have hc0 : w1.cell? ⟨w.heap.size, 0, none⟩ = some (.slice ka n kc) := by rw [hw1]; go_simp
  have hc1 : w1.cell? ⟨w.heap.size, 1, none⟩ = some (.slice la R lc) := by rw [hw1]; go_simp
  have HB1 := Hid.mk' hb1
  have HW1 := Hid.mk' hw1
  have HC : Hid (∀ W, Below w1.heap.size w1 W → W.cell? ⟨w.heap.size, 0, none⟩ = some (.slice ka n kc) ∧ W.cell? ⟨w.heap.size, 1, none⟩ = some (.slice la R lc)) := fun W hb => ⟨by rw [hb.cell (cell_lt hc0)]; exact hc0, by rw [hb.cell (cell_lt hc1)]; exact hc1⟩
  have hV := Valid_weights a _ n z w1 (hE.below hb1) (hk.later hb1) hn
  have HE := Hid.mk' (fun (W : World) (hb : Below w1.heap.size w1 W) => (hE.below hb1).below hb)
  have HT := Hid.mk' (fun (W : World) (hb : Below w1.heap.size w1 W) => (hl.later hb1).later hb)
  have HNS := Hid.mk' hns
  have cS := (hE.below hb1).c2
  clear hE hk hl hb1 hw1 hns
  by_cases he : weightsErr z n ≠ 0
  · have HR : Hid (ciErr n z R ns zs = weightsErr z n) := by show _ = _; unfold ciErr; rw [if_pos he]
    rw [errV_pos a he] at hV
    have HX := Hid.mk' (errV_pos a he)
    generalize weightsErr z n = q at *
    clear he
    go_enter Tryd.func22, Tryd.ntmps22
    go_wp2_with fail
    rw [← HW1.out]
    refine hV.mono ?_
    rintro e w2 ⟨rfl, hw2⟩
    rw [hw2]
    clear hw2 hV
    go_wp2_with fail
    go_ret
    exact ⟨by rw [HR.out, HX.out]; rfl, HB1.out⟩
  · have he0 : weightsErr z n = 0 := by omega
    rw [he0, errV_zero] at hV
    by_cases hRn : R ≠ n
    · have HR : Hid (ciErr n z R ns zs = 3) := by show _ = _; unfold ciErr; rw [if_neg he, if_pos hRn]
      have hne : ((R : Int) != (n : Int)) = true := by rw [bne_iff_ne]; omega
      clear he he0 hRn
      go_enter Tryd.func22, Tryd.ntmps22
      go_wp2_with fail
      rw [← HW1.out]
      refine hV.mono ?_
      rintro e w2 ⟨rfl, hw2⟩
      rw [hw2]
      clear hw2 hV
      go_wp2_with fail
      go_ret
      exact ⟨by rw [HR.out, errV_three]; rfl, HB1.out⟩
    · have hRn' : R = n := by omega
      subst hRn'
      obtain ⟨h16, hok⟩ := weightsErr_ok he0
      have h0 := hok.posN
      have HR : Hid (ciErr R z R ns zs = if badC ns zs R = true then 3 else 0) := by show _ = _; unfold ciErr; rw [if_neg he, if_neg hRn]
      obtain ⟨b, o, rfl⟩ : ∃ b o, la = some ⟨b, o, none⟩ := by
        rcases HT.out w1 (Below.refl _ _) with ⟨_, _, _, h1⟩ | ⟨b, o, c, h1, _, h2⟩
        · omega
        · simp only [Value.slice.injEq, true_and] at h1
          exact ⟨b, o, h1.1⟩
      have HRW : Hid (∀ W, Below w1.heap.size w1 W → ∀ i, i < R → W.cell? ⟨b, o + i, none⟩ = some (vs i) ∧ NumsAt W (vs i) (ns i) (zs i)) := fun W hb => by
        rcases HT.out W hb with ⟨_, _, _, h1⟩ | ⟨b', o', c, h1, _, h2⟩
        · omega
        · simp only [Value.slice.injEq, true_and, Option.some.injEq, Addr.mk.injEq] at h1
          obtain ⟨⟨rfl, rfl, -⟩, rfl⟩ := h1
          exact h2
      have hne : ((R : Int) != (R : Int)) = false := by simp
      obtain ⟨a0, c0, he0'⟩ := (HRW.out w1 (Below.refl _ _) 0 h0).2.form
      have HC0 : Hid (∀ W, Below w1.heap.size w1 W → W.cell? ⟨b, o, none⟩ = some (.slice a0 (ns 0) c0)) := fun W hb => by
        have := (HRW.out W hb 0 h0).1
        rwa [he0', Nat.add_zero] at this
      have h0I : (0 : Int) < (R : Int) := by omega
      clear he he0 hRn hok he0' HT
      go_enter Tryd.func22, Tryd.ntmps22
      go_wp2_with fail
      rw [← HW1.out]
      refine hV.mono ?_
      rintro e w2 ⟨rfl, hw2⟩
      rw [hw2]
      clear hw2 hV
      go_wp2_with fail
      clear hc0 hc1 cS
      go_loopw [23] (fun t wr => ∃ k : Nat, k ≤ R ∧ t = .int .i64 k ∧ Hid (Below w1.heap.size w1 wr) ∧ Hid (badC ns zs k = false)) (fun t _ => R - (intOf t).toNat)
      case atStart => exact ⟨0, Nat.zero_le _, rfl, Below.refl _ _, rfl⟩
      case round =>
        obtain ⟨k, hk, rfl, HB, HS⟩ := hrel
        rcases Nat.lt_or_ge k R with h1 | h1
        · have hkI : (k : Int) < (R : Int) := by omega
          have hk0 : (0 : Int) ≤ (k : Int) := by omega
          obtain ⟨hck, hnum⟩ := HRW.out wr HB.out k h1
          obtain ⟨rad, rcap, hre⟩ := hnum.form
          rw [hre] at hck hnum
          have hc1 := (HC.out wr HB.out).2
          have hcz := HC0.out wr HB.out
          have hnk := HNS.out k h1
          have cS := (HE.out wr HB.out).c2
          have HBAD : Hid (ns k = 0 ∨ ns k ≠ ns 0 ∨ rowB (zs k) (ns k) = false → ciErr R z R ns zs = 3) := fun h => by rw [HR.out, if_pos (badC_at h1 h)]
          by_cases hs0 : ns k = 0
          · have HV := Hid.mk' (HBAD.out (Or.inl hs0))
            have hz : ((ns k : Int) == 0) = true := by rw [beq_iff_eq]; omega
            generalize ns k = nk at *
            clear HBAD hs0 hnum hre
            go_wp2_with fail
            go_ret
            exact ⟨by rw [HV.out, errV_three]; rfl, below_chS HB1.out HB.out⟩
          · have hz : ((ns k : Int) == 0) = false := by rw [beq_eq_false_iff_ne]; omega
            by_cases hsh : ns k = ns 0
            · have hrow := isRow_any _ (ns k) (zs k) wr hnum hnk
              have HST : Hid (rowB (zs k) (ns k) = true → badC ns zs (k + 1) = false) := fun h => badC_step HS.out hs0 hsh h
              have hq : ((ns k : Int) != (ns 0 : Int)) = false := by rw [hsh]; simp
              cases hrb : rowB (zs k) (ns k) with
              | true =>
                have HST' := Hid.mk' (HST.out hrb)
                rw [hrb] at hrow
                generalize ns k = nk at *
                clear HBAD HST hrb hsh hs0 hnum hre
                go_wp2_with fail
                refine hrow.mono ?_
                rintro e w3 ⟨rfl, hb3⟩
                have HB3 := Hid.mk' (below_chS HB.out hb3)
                clear hrow hb3 hck hc1 hcz cS
                go_wp2_with fail
                go_roundw
                case rel => exact ⟨k + 1, h1, by go_num, HB3, HST'⟩
                case measure => simp [intOf]; omega
              | false =>
                have HV := Hid.mk' (HBAD.out (Or.inr (Or.inr hrb)))
                rw [hrb] at hrow
                generalize ns k = nk at *
                clear HBAD HST hrb hsh hs0 hnum hre
                go_wp2_with fail
                refine hrow.mono ?_
                rintro e w3 ⟨rfl, hb3⟩
                have HB3 := Hid.mk' (below_chS HB.out hb3)
                have cS := (HE.out w3 HB3.out).c2
                clear hrow hb3 hck hc1 hcz
                go_wp2_with fail
                go_ret
                exact ⟨by rw [HV.out, errV_three]; rfl, below_chS HB1.out HB3.out⟩
            · have HV := Hid.mk' (HBAD.out (Or.inr (Or.inl hsh)))
              have hq : ((ns k : Int) != (ns 0 : Int)) = true := by rw [bne_iff_ne]; omega
              generalize ns k = nk at *
              clear HBAD hsh hs0 hnum hre
              go_wp2_with fail
              go_ret
              exact ⟨by rw [HV.out, errV_three]; rfl, below_chS HB1.out HB.out⟩
        · obtain rfl : R = k := by omega
          have HV : Hid (ciErr R z R ns zs = 0) := by show _ = _; rw [HR.out, HS.out, if_neg (by simp)]
          go_wp2_with fail
          go_ret
          exact ⟨by rw [HV.out, errV_zero]; rfl, below_chS HB1.out HB.out⟩
end Go.Proofs.YtdlbnolnkmhdcaaDoor
