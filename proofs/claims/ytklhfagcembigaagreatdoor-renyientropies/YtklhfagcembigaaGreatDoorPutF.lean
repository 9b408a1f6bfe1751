/- (sum).putFactors at any number up to a million. -/
import Derived.Test.YtklhfagcembigaaGreatDoorFactorMath
import Derived.Test.YtklhfagcembigaaGreatDoorPut8
namespace Go.Proofs.YtklhfagcembigaaGreatDoor
open Go.RowKit Go.Maps

theorem wf_int {x : Int} (h : -9223372036854775808 ≤ x ∧ x ≤ 9223372036854775807) : (Lit.int .i64 x).wf = true := by
  have h1 : IntKind.i64.min = -9223372036854775808 := by decide
  have h2 : IntKind.i64.max = 9223372036854775807 := by decide
  simp only [Lit.wf, h1, h2, Bool.and_eq_true, decide_eq_true_eq]
  exact h
theorem quo_any {a b : Nat} (h : a ≤ 1000000) : wrap64 ((a : Int) / (b : Int)) = ((a / b : Nat) : Int) := by
  have h0 : (a : Int) / (b : Int) = ((a / b : Nat) : Int) := by simp
  have h1 : a / b ≤ a := Nat.div_le_self _ _
  rw [h0]
  generalize a / b = q at h1
  rw [w64 _ (by omega)]

theorem mul_small19 {t m : Int} (ht : -1000000 ≤ t ∧ t ≤ 1000000) (hm : 0 ≤ m ∧ m ≤ 19) : -19000000 ≤ t * m ∧ t * m ≤ 19000000 := by
  obtain ⟨k, rfl⟩ := Int.eq_ofNat_of_zero_le hm.1
  have hk : k ≤ 19 := by omega
  rcases k with _ | _ | _ | _ | _ | _ | _ | _ | _ | _ | _ | _ | _ | _ | _ | _ | _ | _ | _ | _ | k <;> omega
/-- What putFactors keeps: n is left, k factors are put. -/
structure InPut (w wr : World) (b : Nat) (t : Int) (l0 : List (Int × Int)) (n0 nn0 n : Nat) (l : List (Int × Int)) (k : Nat) : Prop where
  own : wr.ownsMap Tryz.prog 3 (plainElem (H := Unit) Tryz.prog 3) b (nn0 + k) (mapOf l)
  rise : Rising l
  val : ∀ x, atL l x + t * multI x n = atL l0 x + t * multI x n0
  keys : ∀ e ∈ l, 2 ≤ e.1 ∧ e.1 ≤ 1000000
  cnt : 2 ^ k * n ≤ n0
  len : l.length ≤ l0.length + k
  grow : w.grownBy wr (some b)
  box : wr.cell? ⟨w.heap.size, 1, none⟩ = some (.map (some b))

theorem InPut.coef {w wr : World} {b : Nat} {t : Int} {l0 l : List (Int × Int)} {n0 nn0 n k : Nat} (h : InPut w wr b t l0 n0 nn0 n l k) (ht : -1000000 ≤ t ∧ t ≤ 1000000) (hn : 0 < n) (hn6 : n ≤ 1000000) (hn0 : 0 < n0) (hn06 : n0 ≤ 1000000) (hb : ∀ x, -1000000000000000 ≤ atL l0 x ∧ atL l0 x ≤ 1000000000000000) (x : Int) : -1000000100000000 ≤ atL l x ∧ atL l x ≤ 1000000100000000 := by
  have h1 := h.val x
  have h2 := hb x
  have h3 := multI_nonneg x n
  have h4 := multI_le x hn hn6
  have h5 := multI_nonneg x n0
  have h6 := multI_le x hn0 hn06
  have h7 := mul_small19 ht ⟨h3, h4⟩
  have h8 := mul_small19 ht ⟨h5, h6⟩
  omega

theorem InPut.cnt_le {w wr : World} {b : Nat} {t : Int} {l0 l : List (Int × Int)} {n0 nn0 n k : Nat} (h : InPut w wr b t l0 n0 nn0 n l k) (hn : 0 < n) (hn06 : n0 ≤ 1000000) : k ≤ 19 := by
  rcases Nat.lt_or_ge 19 k with h' | h'
  · have h1 := h.cnt
    have h2 : 2 ^ 20 ≤ 2 ^ k := Nat.pow_le_pow_right (by decide) h'
    have h3 : (2 : Nat) ^ 20 = 1048576 := by decide
    have h4 := Nat.mul_le_mul_left (2 ^ k) hn
    omega
  · exact h'

theorem InPut.put {w wr w1 : World} {b : Nat} {t : Int} {l0 l : List (Int × Int)} {n0 nn0 n k d : Nat} (h : InPut w wr b t l0 n0 nn0 n l k) (hb : b < w.heap.size) (hn : 0 < n) (hn6 : n ≤ 1000000) (hd : Pr d) (hm : n % d = 0)
    (ho : w1.ownsMap Tryz.prog 3 (plainElem (H := Unit) Tryz.prog 3) b (nn0 + k + 1) ((mapOf l).put (.int .i64 (d : Int)) (.lit (.int .i64 (atL l (d : Int) + t))))) (hg : wr.grownBy w1 (some b)) :
    InPut w w1 b t l0 n0 nn0 (n / d) (putL l (d : Int) (atL l (d : Int) + t)) (k + 1) := by
  have hdn : d ≤ n := Nat.le_of_dvd hn (Nat.dvd_of_mod_eq_zero hm)
  refine ⟨by rw [put_map] at ho; rw [← Nat.add_assoc]; exact ho, rising_put h.rise _ _, fun x => ?_, fun e he => ?_, ?_, ?_, grown_two h.grow hg, cell_beside hg h.box (by omega)⟩
  · rw [atL_put h.rise, ← h.val x, multI_step x hn hd hm, Int.mul_add]
    by_cases hx : x = (d : Int)
    · rw [if_pos hx, if_pos hx, hx, Int.mul_one]; omega
    · rw [if_neg hx, if_neg hx, Int.mul_zero]; omega
  · rcases mem_put.1 he with rfl | ⟨he, _⟩
    · have := hd.1; exact ⟨by show (2 : Int) ≤ (d : Int); omega, by show (d : Int) ≤ 1000000; omega⟩
    · exact h.keys e he
  · have h1 := h.cnt
    have h2 : 2 * (n / d) ≤ n := by
      have h3 := Nat.mul_le_mul_right (n / d) hd.1
      have h4 := Nat.mul_div_le n d
      omega
    have h5 := Nat.mul_le_mul_left (2 ^ k) h2
    rw [Nat.pow_succ, Nat.mul_assoc]
    omega
  · have h1 := length_put l (d : Int) (atL l (d : Int) + t)
    have h2 := h.len
    omega

theorem coef_at {l : List (Int × Int)} {x c : Int} (hat : (mapOf l).atKey (.int .i64 x) (.lit (.int .i64 0)) = .lit (.int .i64 c)) : c = atL l x := by
  rw [at_map] at hat
  simpa using hat.symm

theorem left_no {n d : Nat} (hm : n % d = 0) (hd : ∀ e, 2 ≤ e → e < d → n % e ≠ 0) : ∀ e, 2 ≤ e → e < d → (n / d) % e ≠ 0 := fun e h1 h2 h3 => by
  refine hd e h1 h2 (Nat.mod_eq_zero_of_dvd (Nat.dvd_trans (Nat.dvd_of_mod_eq_zero h3) ?_))
  exact ⟨d, by rw [Nat.mul_comm]; exact (Nat.mul_div_cancel' (Nat.dvd_of_mod_eq_zero hm)).symm⟩

set_option maxRecDepth 100000 in
set_option maxHeartbeats 2000000 in
theorem Put_any (den t : Int) (b n0 nn0 : Nat) (l0 : List (Int × Int)) (w : World) (hown : w.ownsMap Tryz.prog 3 (plainElem (H := Unit) Tryz.prog 3) b nn0 (mapOf l0)) (hr : Rising l0) (hk : ∀ e ∈ l0, 2 ≤ e.1 ∧ e.1 ≤ 1000000) (hb : ∀ x, -1000000000000000 ≤ atL l0 x ∧ atL l0 x ≤ 1000000000000000) (ht1 : -1000000 ≤ t ∧ t ≤ 1000000) (ht0 : ¬ t = 0) (hn1 : 1 ≤ n0) (hn6 : n0 ≤ 1000000) (hnn : nn0 ≤ 1000000) :
    Calls Tryz.prog 52 #[.agg #[.int .i64 den, .map (some b)], .int .i64 n0, .int .i64 t] w fun e w' => e = .returned (.tuple #[]) ∧ ∃ l k, InPut w w' b t l0 n0 nn0 1 l k := by
  have hbl := hown.lt
  have HT := Hid.mk' ht1
  have htb : (t == 0) = false := by simpa using ht0
  have HB := Hid.mk' hb
  have HI0 : Hid (InPut w (w.alloc (.cells #[.int .i64 den, .map (some b)] 86)) b t l0 n0 nn0 n0 l0 0) :=
    ⟨ownsMap_later hown (Below.heap_alloc _ _ b hbl), hr, fun x => rfl, hk, by simp, Nat.le_refl _, ⟨rfl, rfl, rfl, by simp, fun k hk _ => Below.heap_alloc _ _ k hk⟩, by simp⟩
  clear hown hr hk hb
  go_enter Tryz.func52, Tryz.ntmps52
  go_wp2_with fail
  go_loopw [1, 6] (fun s r wr => ∃ (n d k : Nat) (l : List (Int × Int)), s = .int .i64 n ∧ r = .int .i64 d ∧ 1 ≤ n ∧ n ≤ 1000000 ∧ 2 ≤ d ∧ d ≤ 1001 ∧ Hid (∀ e, 2 ≤ e → e < d → n % e ≠ 0) ∧ Hid (InPut w wr b t l0 n0 nn0 n l k)) (fun _ r _ => 1002 - (intOf r).toNat)
  case atStart => exact ⟨n0, 2, 0, l0, rfl, rfl, hn1, hn6, by omega, by omega, fun e h1 h2 => by omega, HI0⟩
  case round =>
    clear HI0
    obtain ⟨n, d, k, l, rfl, rfl, hn, hnm, hd2, hd3, HD, HI⟩ := hrel
    have hq := quo_any (b := d) hnm
    have hdz : ¬ (d : Int) = 0 := by omega
    by_cases hle : d * d ≤ n
    · have hbr : (d : Int) ≤ wrap64 ((n : Int) / (d : Int)) := by
        rw [hq]
        have := (sq_le_of_le_div (n := n) (show 0 < d by omega)).2 hle
        omega
      have hd1000 : d ≤ 1000 := by
        rcases Nat.lt_or_ge 1000 d with h | h
        · have := Nat.mul_le_mul h h; omega
        · exact h
      clear hq hle
      go_wp2_with fail
      obtain ⟨wo, hwo⟩ : ∃ wo, wo = wr := ⟨_, rfl⟩
      rw [← hwo] at HI ⊢
      clear hwo
      go_loopw [1] (fun s wr => ∃ (m k : Nat) (l : List (Int × Int)), s = .int .i64 m ∧ 1 ≤ m ∧ m ≤ 1000000 ∧ Hid (∀ e, 2 ≤ e → e < d → m % e ≠ 0) ∧ Hid (InPut w wr b t l0 n0 nn0 m l k)) (fun s _ => (intOf s).toNat)
      case atStart => exact ⟨n, k, l, rfl, hn, hnm, HD, HI⟩
      case round =>
        clear HD HI hbr
        obtain ⟨m, k, l, rfl, hm, hmm, HD, HI⟩ := hrel
        have hbox := HI.out.box
        by_cases hmod : m % d = 0
        · have hpr : Pr d := pr_least hd2 hmod HD.out
          have hdm : d ≤ m := Nat.le_of_dvd hm (Nat.dvd_of_mod_eq_zero hmod)
          have hb1 : ((m : Int) % (d : Int) == 0) = true := by
            have : (m : Int) % (d : Int) = ((m % d : Nat) : Int) := by simp
            rw [this, hmod]; rfl
          have hk := HI.out.cnt_le hm hn6
          have hcb := HI.out.coef HT.out hm hmm hn1 hn6 HB.out (d : Int)
          have HKEY : Hid (keyOf Tryz.prog 3 (.int .i64 (d : Int)) = some (.int .i64 (d : Int))) := keyOf_int_mk Tryz.underlying3 (wf_int (by omega))
          have HPUT := Hid.mk' (fun (w1 : World) => HI.out.put (w1 := w1) hbl hm hmm hpr hmod)
          obtain ⟨c, hc⟩ : ∃ c, c = atL l (d : Int) := ⟨_, rfl⟩
          rw [← hc] at hcb HPUT
          have HC := Hid.mk' hc
          have HMOD := Hid.mk' hmod
          have hdiv : m / d ≤ m / 2 := Nat.div_le_div_left hd2 (by omega)
          have hdiv1 : 1 ≤ m / d := Nat.div_pos hdm (by omega)
          have HQM := Hid.mk' (quo_any (b := d) hmm)
          have HDV := Hid.mk' (And.intro hdiv1 hdiv)
          clear hc hmod hpr hdiv hdiv1
          go_wp2_with (first
            | (at_lookup; go_must (refine wpList_lookup_own_int _ rfl _ _ 84 rfl 3 3 .i64 Tryz.lawInt Tryz.underlying84 Tryz.underlying3 (Tryz.zeroInt _) b _ _ rfl HI.out.own _ _ rfl HKEY.out ?_; intro c' hat hwc; have hcc := (coef_at hat).trans HC.out.symm; clear hat hwc; subst hcc))
            | (at_mapUpdate; go_must (refine wpList_mapUpdate_own _ rfl _ _ _ 84 rfl 3 3 Tryz.lawInt Tryz.underlying84 _ b _ _ rfl HI.out.own (by unfold maxLen; omega) _ _ _ rfl rfl HKEY.out _ [] (plainElem_int Tryz.underlying3 (wf_int (by omega))) ?_; intro w1 hown1 hgrow1; have HP1 := Hid.mk' (HPUT.out w1 hown1 hgrow1); clear hown1 hgrow1)))
          exact ⟨⟨m / d, k + 1, _, by rw [HQM.out], HDV.out.1, by have := HDV.out.2; omega, left_no HMOD.out HD.out, HP1⟩, by rw [HQM.out]; show (((m / d : Nat) : Int)).toNat < ((m : Nat) : Int).toNat; rw [Int.toNat_natCast, Int.toNat_natCast]; have := HDV.out.2; omega⟩
        · have hb1 : ((m : Int) % (d : Int) == 0) = false := by
            have : (m : Int) % (d : Int) = ((m % d : Nat) : Int) := by simp
            rw [this, beq_eq_false_iff_ne]; omega
          have HD' : Hid (∀ e, 2 ≤ e → e < d + 1 → m % e ≠ 0) := fun e h1 h2 => by
            rcases Nat.lt_or_ge e d with h | h
            · exact HD.out e h1 h
            · obtain rfl : e = d := by omega
              exact hmod
          clear hmod
          go_wp2_with fail
          exact ⟨⟨m, d + 1, k, l, rfl, by go_num, hm, hmm, by omega, by omega, HD', HI⟩, by simp [intOf]; omega⟩
    · have hbr : wrap64 ((n : Int) / (d : Int)) < (d : Int) := by
        rw [hq]
        have := fun h => hle ((sq_le_of_le_div (n := n) (show 0 < d by omega)).1 h)
        exact Int.ofNat_lt.2 (Nat.lt_of_not_le this)
      have hbox := HI.out.box
      clear hq
      rcases Nat.lt_or_ge 1 n with h1 | h1
      · have hpr : Pr n := Pr_of_end h1 HD.out (by omega)
        have hk := HI.out.cnt_le hn hn6
        have hcb := HI.out.coef HT.out hn hnm hn1 hn6 HB.out (n : Int)
        have HKEY : Hid (keyOf Tryz.prog 3 (.int .i64 (n : Int)) = some (.int .i64 (n : Int))) := keyOf_int_mk Tryz.underlying3 (wf_int (by omega))
        have HPUT := Hid.mk' (fun (w1 : World) => HI.out.put (w1 := w1) hbl hn hnm hpr (Nat.mod_self n))
        obtain ⟨c, hc⟩ : ∃ c, c = atL l (n : Int) := ⟨_, rfl⟩
        rw [← hc] at hcb HPUT
        have HC := Hid.mk' hc
        have hn1I : (1 : Int) < (n : Int) := by omega
        clear hc hpr hle
        go_wp2_with (first
          | (at_lookup; go_must (refine wpList_lookup_own_int _ rfl _ _ 84 rfl 3 3 .i64 Tryz.lawInt Tryz.underlying84 Tryz.underlying3 (Tryz.zeroInt _) b _ _ rfl HI.out.own _ _ rfl HKEY.out ?_; intro c' hat hwc; have hcc := (coef_at hat).trans HC.out.symm; clear hat hwc; subst hcc))
          | (at_mapUpdate; go_must (refine wpList_mapUpdate_own _ rfl _ _ _ 84 rfl 3 3 Tryz.lawInt Tryz.underlying84 _ b _ _ rfl HI.out.own (by unfold maxLen; omega) _ _ _ rfl rfl HKEY.out _ [] (plainElem_int Tryz.underlying3 (wf_int (by omega))) ?_; intro w1 hown1 hgrow1; have HP1 := Hid.mk' (HPUT.out w1 hown1 hgrow1); clear hown1 hgrow1)))
        go_end0
        have := HP1.out
        rw [Nat.div_self (by omega)] at this
        exact ⟨rfl, _, _, this⟩
      · have hn1I : (n : Int) ≤ 1 := by omega
        clear hle
        go_wp2_with fail
        go_end0
        have h1n : n = 1 := by omega
        have := HI.out
        rw [h1n] at this
        exact ⟨rfl, _, _, this⟩

theorem putFactors_any (den t : Int) (b n0 nn0 : Nat) (l0 : List (Int × Int)) (w : World) (hown : w.ownsMap Tryz.prog 3 (plainElem (H := Unit) Tryz.prog 3) b nn0 (mapOf l0)) (hr : Rising l0) (hk : ∀ e ∈ l0, 2 ≤ e.1 ∧ e.1 ≤ 1000000) (hb : ∀ x, -1000 ≤ atL l0 x ∧ atL l0 x ≤ 1000) (ht : t = 1 ∨ t = -1) (hn1 : 1 ≤ n0) (hn6 : n0 ≤ 1000000) (hnn : nn0 ≤ 1000) :
    Calls Tryz.prog 52 #[.agg #[.int .i64 den, .map (some b)], .int .i64 n0, .int .i64 t] w fun e w' => e = .returned (.tuple #[]) ∧ ∃ l k, InPut w w' b t l0 n0 nn0 1 l k :=
  Put_any den t b n0 nn0 l0 w hown hr hk (fun x => by have := hb x; omega) (by omega) (by omega) hn1 hn6 (by omega)

/-- What calls of Put leave, whatever they put: f comes to the sum, in at most c calls. -/
structure Puts (w wr : World) (b : Nat) (f : Int → Int) (c : Nat) (l0 : List (Int × Int)) (nn0 : Nat) (l : List (Int × Int)) (nn : Nat) : Prop where
  own : wr.ownsMap Tryz.prog 3 (plainElem (H := Unit) Tryz.prog 3) b nn (mapOf l)
  rise : Rising l
  val : ∀ x, atL l x = atL l0 x + f x
  keys : ∀ e ∈ l, 2 ≤ e.1 ∧ e.1 ≤ 1000000
  cnt : nn ≤ nn0 + 20 * c
  len : l.length ≤ l0.length + 20 * c
  grow : w.grownBy wr (some b)
theorem grown_refl (w : World) (b : Option Nat) : w.grownBy w b := ⟨rfl, rfl, rfl, Nat.le_refl _, fun _ _ _ => rfl⟩
theorem Puts.trans {w w1 w2 : World} {b : Nat} {f g : Int → Int} {c d : Nat} {l0 l1 l2 : List (Int × Int)} {nn0 nn1 nn2 : Nat} (h : Puts w w1 b f c l0 nn0 l1 nn1) (k : Puts w1 w2 b g d l1 nn1 l2 nn2) : Puts w w2 b (fun x => f x + g x) (c + d) l0 nn0 l2 nn2 :=
  ⟨k.own, k.rise, fun x => by rw [k.val, h.val]; omega, k.keys, by have := h.cnt; have := k.cnt; omega, by have := h.len; have := k.len; omega, grown_two h.grow k.grow⟩
theorem Puts.congr {w w1 : World} {b : Nat} {f g : Int → Int} {c d : Nat} {l0 l1 : List (Int × Int)} {nn0 nn1 : Nat} (h : Puts w w1 b f c l0 nn0 l1 nn1) (hc : c ≤ d) (he : ∀ x, f x = g x) : Puts w w1 b g d l0 nn0 l1 nn1 :=
  ⟨h.own, h.rise, fun x => by rw [h.val, he], h.keys, by have := h.cnt; omega, by have := h.len; omega, h.grow⟩
set_option maxRecDepth 100000 in
theorem Put_by (den t : Int) (b n0 nn0 : Nat) (l0 : List (Int × Int)) (w : World) (hown : w.ownsMap Tryz.prog 3 (plainElem (H := Unit) Tryz.prog 3) b nn0 (mapOf l0)) (hr : Rising l0) (hk : ∀ e ∈ l0, 2 ≤ e.1 ∧ e.1 ≤ 1000000) (hb : ∀ x, -1000000000000000 ≤ atL l0 x ∧ atL l0 x ≤ 1000000000000000) (ht1 : -1000000 ≤ t ∧ t ≤ 1000000) (hn1 : t ≠ 0 → 1 ≤ n0) (hn6 : n0 ≤ 1000000) (hnn : nn0 ≤ 1000000) :
    Calls Tryz.prog 52 #[.agg #[.int .i64 den, .map (some b)], .int .i64 n0, .int .i64 t] w fun e w' => e = .returned (.tuple #[]) ∧ ∃ l nn, Puts w w' b (fun x => t * multI x n0) 1 l0 nn0 l nn := by
  by_cases ht0 : t = 0
  · subst ht0
    have hbl := hown.lt
    have HP : Hid (Puts w (w.alloc (.cells #[.int .i64 den, .map (some b)] 86)) b (fun x => 0 * multI x n0) 1 l0 nn0 l0 nn0) :=
      ⟨ownsMap_later hown (Below.heap_alloc _ _ b hbl), hr, fun x => by simp, hk, by omega, by omega, ⟨rfl, rfl, rfl, by simp, fun k hk _ => Below.heap_alloc _ _ k hk⟩⟩
    clear hown hr hk hb hn1
    go_enter Tryz.func52, Tryz.ntmps52
    go_wp2_with fail
    exact bodyPost_ret (v := .tuple #[]) (by simp [results, Tryz.results52]) rfl ⟨rfl, _, _, HP.out⟩
  · refine (Put_any den t b n0 nn0 l0 w hown hr hk hb ht1 ht0 (hn1 ht0) hn6 hnn).mono ?_
    rintro e w' ⟨rfl, l, k, h⟩
    have hk19 := h.cnt_le (by decide) hn6
    exact ⟨rfl, l, nn0 + k, h.own, h.rise, fun x => by have := h.val x; rw [multI_one, Int.mul_zero, Int.add_zero] at this; exact this, h.keys, by omega, by have := h.len; omega, h.grow⟩
end Go.Proofs.YtklhfagcembigaaGreatDoor
