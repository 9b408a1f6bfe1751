/- (sum).putFactors at any number up to a million. -/
import Derived.Test.YtphecjjblnnjdaaGreatDoorPackA
import Derived.Test.YtphecjjblnnjdaaGreatDoorPut8
import Derived.Test.YtphecjjblnnjdaaGreatDoorValidWalk
import Derived.Deep.AppendLies
import Derived.Deep.Upon
import Derived.Deep.Onto
import Derived.Deep.CutBlock
namespace Go.Proofs.YtphecjjblnnjdaaGreatDoor
open Go.RowKit Go.Maps

theorem wf_int {x : Int} (h : -9223372036854775808 ≤ x ∧ x ≤ 9223372036854775807) : (Lit.int .i64 x).wf = true := by
  have h1 : IntKind.i64.min = -9223372036854775808 := by decide
  have h2 : IntKind.i64.max = 9223372036854775807 := by decide
  simp only [Lit.wf, h1, h2, Bool.and_eq_true, decide_eq_true_eq]
  exact h
theorem quo_any {a b : Nat} (h : a ≤ 1000000) : wrap64 ((a : Int) / (b : Int)) = ((a / b : Nat) : Int) := by
  have h0 : (a : Int) / (b : Int) = ((a / b : Nat) : Int) := by simp
  have h1 : a / b ≤ a := Nat.div_le_self _ _
  rw [h0]
  generalize a / b = q at h1
  rw [w64 _ (by omega)]

theorem mul_small19 {t m : Int} (ht : -1000000 ≤ t ∧ t ≤ 1000000) (hm : 0 ≤ m ∧ m ≤ 19) : -19000000 ≤ t * m ∧ t * m ≤ 19000000 := by
  obtain ⟨k, rfl⟩ := Int.eq_ofNat_of_zero_le hm.1
  have hk : k ≤ 19 := by omega
  rcases k with _ | _ | _ | _ | _ | _ | _ | _ | _ | _ | _ | _ | _ | _ | _ | _ | _ | _ | _ | _ | k <;> omega
/-- What putFactors keeps: n is left, k factors are put. -/
structure InPut (w wr : World) (b : Nat) (t : Int) (l0 : List (Int × Int)) (n0 nn0 n : Nat) (l : List (Int × Int)) (k : Nat) : Prop where
  own : wr.ownsMap Tryz.prog 3 (plainElem (H := Unit) Tryz.prog 3) b (nn0 + k) (mapOf l)
  rise : Rising l
  val : ∀ x, atL l x + t * multI x n = atL l0 x + t * multI x n0
  keys : ∀ e ∈ l, 2 ≤ e.1 ∧ e.1 ≤ 1000000
  cnt : 2 ^ k * n ≤ n0
  len : l.length ≤ l0.length + k
  grow : w.grownBy wr (some b)
  box : wr.cell? ⟨w.heap.size, 1, none⟩ = some (.map (some b))

theorem InPut.coef {w wr : World} {b : Nat} {t : Int} {l0 l : List (Int × Int)} {n0 nn0 n k : Nat} (h : InPut w wr b t l0 n0 nn0 n l k) (ht : -1000000 ≤ t ∧ t ≤ 1000000) (hn : 0 < n) (hn6 : n ≤ 1000000) (hn0 : 0 < n0) (hn06 : n0 ≤ 1000000) (hb : ∀ x, -1000000000000000 ≤ atL l0 x ∧ atL l0 x ≤ 1000000000000000) (x : Int) : -1000000100000000 ≤ atL l x ∧ atL l x ≤ 1000000100000000 := by
  have h1 := h.val x
  have h2 := hb x
  have h3 := multI_nonneg x n
  have h4 := multI_le x hn hn6
  have h5 := multI_nonneg x n0
  have h6 := multI_le x hn0 hn06
  have h7 := mul_small19 ht ⟨h3, h4⟩
  have h8 := mul_small19 ht ⟨h5, h6⟩
  omega

theorem InPut.cnt_le {w wr : World} {b : Nat} {t : Int} {l0 l : List (Int × Int)} {n0 nn0 n k : Nat} (h : InPut w wr b t l0 n0 nn0 n l k) (hn : 0 < n) (hn06 : n0 ≤ 1000000) : k ≤ 19 := by
  rcases Nat.lt_or_ge 19 k with h' | h'
  · have h1 := h.cnt
    have h2 : 2 ^ 20 ≤ 2 ^ k := Nat.pow_le_pow_right (by decide) h'
    have h3 : (2 : Nat) ^ 20 = 1048576 := by decide
    have h4 := Nat.mul_le_mul_left (2 ^ k) hn
    omega
  · exact h'

theorem InPut.put {w wr w1 : World} {b : Nat} {t : Int} {l0 l : List (Int × Int)} {n0 nn0 n k d : Nat} (h : InPut w wr b t l0 n0 nn0 n l k) (hb : b < w.heap.size) (hn : 0 < n) (hn6 : n ≤ 1000000) (hd : Pr d) (hm : n % d = 0)
    (ho : w1.ownsMap Tryz.prog 3 (plainElem (H := Unit) Tryz.prog 3) b (nn0 + k + 1) ((mapOf l).put (.int .i64 (d : Int)) (.lit (.int .i64 (atL l (d : Int) + t))))) (hg : wr.grownBy w1 (some b)) :
    InPut w w1 b t l0 n0 nn0 (n / d) (putL l (d : Int) (atL l (d : Int) + t)) (k + 1) := by
  have hdn : d ≤ n := Nat.le_of_dvd hn (Nat.dvd_of_mod_eq_zero hm)
  refine ⟨by rw [put_map] at ho; rw [← Nat.add_assoc]; exact ho, rising_put h.rise _ _, fun x => ?_, fun e he => ?_, ?_, ?_, grown_two h.grow hg, cell_beside hg h.box (by omega)⟩
  · rw [atL_put h.rise, ← h.val x, multI_step x hn hd hm, Int.mul_add]
    by_cases hx : x = (d : Int)
    · rw [if_pos hx, if_pos hx, hx, Int.mul_one]; omega
    · rw [if_neg hx, if_neg hx, Int.mul_zero]; omega
  · rcases mem_put.1 he with rfl | ⟨he, _⟩
    · have := hd.1; exact ⟨by show (2 : Int) ≤ (d : Int); omega, by show (d : Int) ≤ 1000000; omega⟩
    · exact h.keys e he
  · have h1 := h.cnt
    have h2 : 2 * (n / d) ≤ n := by
      have h3 := Nat.mul_le_mul_right (n / d) hd.1
      have h4 := Nat.mul_div_le n d
      omega
    have h5 := Nat.mul_le_mul_left (2 ^ k) h2
    rw [Nat.pow_succ, Nat.mul_assoc]
    omega
  · have h1 := length_put l (d : Int) (atL l (d : Int) + t)
    have h2 := h.len
    omega

theorem coef_at {l : List (Int × Int)} {x c : Int} (hat : (mapOf l).atKey (.int .i64 x) (.lit (.int .i64 0)) = .lit (.int .i64 c)) : c = atL l x := by
  rw [at_map] at hat
  simpa using hat.symm

theorem left_no {n d : Nat} (hm : n % d = 0) (hd : ∀ e, 2 ≤ e → e < d → n % e ≠ 0) : ∀ e, 2 ≤ e → e < d → (n / d) % e ≠ 0 := fun e h1 h2 h3 => by
  refine hd e h1 h2 (Nat.mod_eq_zero_of_dvd (Nat.dvd_trans (Nat.dvd_of_mod_eq_zero h3) ?_))
  exact ⟨d, by rw [Nat.mul_comm]; exact (Nat.mul_div_cancel' (Nat.dvd_of_mod_eq_zero hm)).symm⟩

set_option maxRecDepth 100000 in
set_option maxHeartbeats 2000000 in
theorem Put_any (den t : Int) (b n0 nn0 : Nat) (l0 : List (Int × Int)) (w : World) (hown : w.ownsMap Tryz.prog 3 (plainElem (H := Unit) Tryz.prog 3) b nn0 (mapOf l0)) (hr : Rising l0) (hk : ∀ e ∈ l0, 2 ≤ e.1 ∧ e.1 ≤ 1000000) (hb : ∀ x, -1000000000000000 ≤ atL l0 x ∧ atL l0 x ≤ 1000000000000000) (ht1 : -1000000 ≤ t ∧ t ≤ 1000000) (ht0 : ¬ t = 0) (hn1 : 1 ≤ n0) (hn6 : n0 ≤ 1000000) (hnn : nn0 ≤ 1000000) :
    Calls Tryz.prog 104 #[.agg #[.int .i64 den, .map (some b)], .int .i64 n0, .int .i64 t] w fun e w' => e = .returned (.tuple #[]) ∧ ∃ l k, InPut w w' b t l0 n0 nn0 1 l k := by
  have hbl := hown.lt
  have HT := Hid.mk' ht1
  have htb : (t == 0) = false := by simpa using ht0
  have HB := Hid.mk' hb
  have HI0 : Hid (InPut w (w.alloc (.cells #[.int .i64 den, .map (some b)] 145)) b t l0 n0 nn0 n0 l0 0) :=
    ⟨ownsMap_later hown (Below.heap_alloc _ _ b hbl), hr, fun x => rfl, hk, by simp, Nat.le_refl _, ⟨rfl, rfl, rfl, by simp, fun k hk _ => Below.heap_alloc _ _ k hk⟩, by simp⟩
  clear hown hr hk hb
  go_enter Tryz.func104, Tryz.ntmps104
  go_wp2_with fail
  go_loopw [1, 6] (fun s r wr => ∃ (n d k : Nat) (l : List (Int × Int)), s = .int .i64 n ∧ r = .int .i64 d ∧ 1 ≤ n ∧ n ≤ 1000000 ∧ 2 ≤ d ∧ d ≤ 1001 ∧ Hid (∀ e, 2 ≤ e → e < d → n % e ≠ 0) ∧ Hid (InPut w wr b t l0 n0 nn0 n l k)) (fun _ r _ => 1002 - (intOf r).toNat)
  case atStart => exact ⟨n0, 2, 0, l0, rfl, rfl, hn1, hn6, by omega, by omega, fun e h1 h2 => by omega, HI0⟩
  case round =>
    clear HI0
    obtain ⟨n, d, k, l, rfl, rfl, hn, hnm, hd2, hd3, HD, HI⟩ := hrel
    have hq := quo_any (b := d) hnm
    have hdz : ¬ (d : Int) = 0 := by omega
    by_cases hle : d * d ≤ n
    · have hbr : (d : Int) ≤ wrap64 ((n : Int) / (d : Int)) := by
        rw [hq]
        have := (sq_le_of_le_div (n := n) (show 0 < d by omega)).2 hle
        omega
      have hd1000 : d ≤ 1000 := by
        rcases Nat.lt_or_ge 1000 d with h | h
        · have := Nat.mul_le_mul h h; omega
        · exact h
      clear hq hle
      go_wp2_with fail
      obtain ⟨wo, hwo⟩ : ∃ wo, wo = wr := ⟨_, rfl⟩
      rw [← hwo] at HI ⊢
      clear hwo
      go_loopw [1] (fun s wr => ∃ (m k : Nat) (l : List (Int × Int)), s = .int .i64 m ∧ 1 ≤ m ∧ m ≤ 1000000 ∧ Hid (∀ e, 2 ≤ e → e < d → m % e ≠ 0) ∧ Hid (InPut w wr b t l0 n0 nn0 m l k)) (fun s _ => (intOf s).toNat)
      case atStart => exact ⟨n, k, l, rfl, hn, hnm, HD, HI⟩
      case round =>
        clear HD HI hbr
        obtain ⟨m, k, l, rfl, hm, hmm, HD, HI⟩ := hrel
        have hbox := HI.out.box
        by_cases hmod : m % d = 0
        · have hpr : Pr d := pr_least hd2 hmod HD.out
          have hdm : d ≤ m := Nat.le_of_dvd hm (Nat.dvd_of_mod_eq_zero hmod)
          have hb1 : ((m : Int) % (d : Int) == 0) = true := by
            have : (m : Int) % (d : Int) = ((m % d : Nat) : Int) := by simp
            rw [this, hmod]; rfl
          have hk := HI.out.cnt_le hm hn6
          have hcb := HI.out.coef HT.out hm hmm hn1 hn6 HB.out (d : Int)
          have HKEY : Hid (keyOf Tryz.prog 3 (.int .i64 (d : Int)) = some (.int .i64 (d : Int))) := keyOf_int_mk Tryz.underlying3 (wf_int (by omega))
          have HPUT := Hid.mk' (fun (w1 : World) => HI.out.put (w1 := w1) hbl hm hmm hpr hmod)
          obtain ⟨c, hc⟩ : ∃ c, c = atL l (d : Int) := ⟨_, rfl⟩
          rw [← hc] at hcb HPUT
          have HC := Hid.mk' hc
          have HMOD := Hid.mk' hmod
          have hdiv : m / d ≤ m / 2 := Nat.div_le_div_left hd2 (by omega)
          have hdiv1 : 1 ≤ m / d := Nat.div_pos hdm (by omega)
          have HQM := Hid.mk' (quo_any (b := d) hmm)
          have HDV := Hid.mk' (And.intro hdiv1 hdiv)
          clear hc hmod hpr hdiv hdiv1
          go_wp2_with (first
            | (at_lookup; go_must (refine wpList_lookup_own_int _ rfl _ _ 143 rfl 3 3 .i64 Tryz.lawInt Tryz.underlying143 Tryz.underlying3 (Tryz.zeroInt _) b _ _ rfl HI.out.own _ _ rfl HKEY.out ?_; intro c' hat hwc; have hcc := (coef_at hat).trans HC.out.symm; clear hat hwc; subst hcc))
            | (at_mapUpdate; go_must (refine wpList_mapUpdate_own _ rfl _ _ _ 143 rfl 3 3 Tryz.lawInt Tryz.underlying143 _ b _ _ rfl HI.out.own (by unfold maxLen; omega) _ _ _ rfl rfl HKEY.out _ [] (plainElem_int Tryz.underlying3 (wf_int (by omega))) ?_; intro w1 hown1 hgrow1; have HP1 := Hid.mk' (HPUT.out w1 hown1 hgrow1); clear hown1 hgrow1)))
          exact ⟨⟨m / d, k + 1, _, by rw [HQM.out], HDV.out.1, by have := HDV.out.2; omega, left_no HMOD.out HD.out, HP1⟩, by rw [HQM.out]; show (((m / d : Nat) : Int)).toNat < ((m : Nat) : Int).toNat; rw [Int.toNat_natCast, Int.toNat_natCast]; have := HDV.out.2; omega⟩
        · have hb1 : ((m : Int) % (d : Int) == 0) = false := by
            have : (m : Int) % (d : Int) = ((m % d : Nat) : Int) := by simp
            rw [this, beq_eq_false_iff_ne]; omega
          have HD' : Hid (∀ e, 2 ≤ e → e < d + 1 → m % e ≠ 0) := fun e h1 h2 => by
            rcases Nat.lt_or_ge e d with h | h
            · exact HD.out e h1 h
            · obtain rfl : e = d := by omega
              exact hmod
          clear hmod
          go_wp2_with fail
          exact ⟨⟨m, d + 1, k, l, rfl, by go_num, hm, hmm, by omega, by omega, HD', HI⟩, by simp [intOf]; omega⟩
    · have hbr : wrap64 ((n : Int) / (d : Int)) < (d : Int) := by
        rw [hq]
        have := fun h => hle ((sq_le_of_le_div (n := n) (show 0 < d by omega)).1 h)
        exact Int.ofNat_lt.2 (Nat.lt_of_not_le this)
      have hbox := HI.out.box
      clear hq
      rcases Nat.lt_or_ge 1 n with h1 | h1
      · have hpr : Pr n := Pr_of_end h1 HD.out (by omega)
        have hk := HI.out.cnt_le hn hn6
        have hcb := HI.out.coef HT.out hn hnm hn1 hn6 HB.out (n : Int)
        have HKEY : Hid (keyOf Tryz.prog 3 (.int .i64 (n : Int)) = some (.int .i64 (n : Int))) := keyOf_int_mk Tryz.underlying3 (wf_int (by omega))
        have HPUT := Hid.mk' (fun (w1 : World) => HI.out.put (w1 := w1) hbl hn hnm hpr (Nat.mod_self n))
        obtain ⟨c, hc⟩ : ∃ c, c = atL l (n : Int) := ⟨_, rfl⟩
        rw [← hc] at hcb HPUT
        have HC := Hid.mk' hc
        have hn1I : (1 : Int) < (n : Int) := by omega
        clear hc hpr hle
        go_wp2_with (first
          | (at_lookup; go_must (refine wpList_lookup_own_int _ rfl _ _ 143 rfl 3 3 .i64 Tryz.lawInt Tryz.underlying143 Tryz.underlying3 (Tryz.zeroInt _) b _ _ rfl HI.out.own _ _ rfl HKEY.out ?_; intro c' hat hwc; have hcc := (coef_at hat).trans HC.out.symm; clear hat hwc; subst hcc))
          | (at_mapUpdate; go_must (refine wpList_mapUpdate_own _ rfl _ _ _ 143 rfl 3 3 Tryz.lawInt Tryz.underlying143 _ b _ _ rfl HI.out.own (by unfold maxLen; omega) _ _ _ rfl rfl HKEY.out _ [] (plainElem_int Tryz.underlying3 (wf_int (by omega))) ?_; intro w1 hown1 hgrow1; have HP1 := Hid.mk' (HPUT.out w1 hown1 hgrow1); clear hown1 hgrow1)))
        go_end0
        have := HP1.out
        rw [Nat.div_self (by omega)] at this
        exact ⟨rfl, _, _, this⟩
      · have hn1I : (n : Int) ≤ 1 := by omega
        clear hle
        go_wp2_with fail
        go_end0
        have h1n : n = 1 := by omega
        have := HI.out
        rw [h1n] at this
        exact ⟨rfl, _, _, this⟩

theorem putFactors_any (den t : Int) (b n0 nn0 : Nat) (l0 : List (Int × Int)) (w : World) (hown : w.ownsMap Tryz.prog 3 (plainElem (H := Unit) Tryz.prog 3) b nn0 (mapOf l0)) (hr : Rising l0) (hk : ∀ e ∈ l0, 2 ≤ e.1 ∧ e.1 ≤ 1000000) (hb : ∀ x, -1000 ≤ atL l0 x ∧ atL l0 x ≤ 1000) (ht : t = 1 ∨ t = -1) (hn1 : 1 ≤ n0) (hn6 : n0 ≤ 1000000) (hnn : nn0 ≤ 1000) :
    Calls Tryz.prog 104 #[.agg #[.int .i64 den, .map (some b)], .int .i64 n0, .int .i64 t] w fun e w' => e = .returned (.tuple #[]) ∧ ∃ l k, InPut w w' b t l0 n0 nn0 1 l k :=
  Put_any den t b n0 nn0 l0 w hown hr hk (fun x => by have := hb x; omega) (by omega) (by omega) hn1 hn6 (by omega)

/-- What calls of Put leave, whatever they put: f comes to the sum, in at most c calls. -/
structure Puts (w wr : World) (b : Nat) (f : Int → Int) (c : Nat) (l0 : List (Int × Int)) (nn0 : Nat) (l : List (Int × Int)) (nn : Nat) : Prop where
  own : wr.ownsMap Tryz.prog 3 (plainElem (H := Unit) Tryz.prog 3) b nn (mapOf l)
  rise : Rising l
  val : ∀ x, atL l x = atL l0 x + f x
  keys : ∀ e ∈ l, 2 ≤ e.1 ∧ e.1 ≤ 1000000
  cnt : nn ≤ nn0 + 20 * c
  len : l.length ≤ l0.length + 20 * c
  grow : w.grownBy wr (some b)
theorem grown_refl (w : World) (b : Option Nat) : w.grownBy w b := ⟨rfl, rfl, rfl, Nat.le_refl _, fun _ _ _ => rfl⟩
theorem Puts.trans {w w1 w2 : World} {b : Nat} {f g : Int → Int} {c d : Nat} {l0 l1 l2 : List (Int × Int)} {nn0 nn1 nn2 : Nat} (h : Puts w w1 b f c l0 nn0 l1 nn1) (k : Puts w1 w2 b g d l1 nn1 l2 nn2) : Puts w w2 b (fun x => f x + g x) (c + d) l0 nn0 l2 nn2 :=
  ⟨k.own, k.rise, fun x => by rw [k.val, h.val]; omega, k.keys, by have := h.cnt; have := k.cnt; omega, by have := h.len; have := k.len; omega, grown_two h.grow k.grow⟩
theorem Puts.congr {w w1 : World} {b : Nat} {f g : Int → Int} {c d : Nat} {l0 l1 : List (Int × Int)} {nn0 nn1 : Nat} (h : Puts w w1 b f c l0 nn0 l1 nn1) (hc : c ≤ d) (he : ∀ x, f x = g x) : Puts w w1 b g d l0 nn0 l1 nn1 :=
  ⟨h.own, h.rise, fun x => by rw [h.val, he], h.keys, by have := h.cnt; omega, by have := h.len; omega, h.grow⟩
set_option maxRecDepth 100000 in
theorem Put_by (den t : Int) (b n0 nn0 : Nat) (l0 : List (Int × Int)) (w : World) (hown : w.ownsMap Tryz.prog 3 (plainElem (H := Unit) Tryz.prog 3) b nn0 (mapOf l0)) (hr : Rising l0) (hk : ∀ e ∈ l0, 2 ≤ e.1 ∧ e.1 ≤ 1000000) (hb : ∀ x, -1000000000000000 ≤ atL l0 x ∧ atL l0 x ≤ 1000000000000000) (ht1 : -1000000 ≤ t ∧ t ≤ 1000000) (hn1 : t ≠ 0 → 1 ≤ n0) (hn6 : n0 ≤ 1000000) (hnn : nn0 ≤ 1000000) :
    Calls Tryz.prog 104 #[.agg #[.int .i64 den, .map (some b)], .int .i64 n0, .int .i64 t] w fun e w' => e = .returned (.tuple #[]) ∧ ∃ l nn, Puts w w' b (fun x => t * multI x n0) 1 l0 nn0 l nn := by
  by_cases ht0 : t = 0
  · subst ht0
    have hbl := hown.lt
    have HP : Hid (Puts w (w.alloc (.cells #[.int .i64 den, .map (some b)] 145)) b (fun x => 0 * multI x n0) 1 l0 nn0 l0 nn0) :=
      ⟨ownsMap_later hown (Below.heap_alloc _ _ b hbl), hr, fun x => by simp, hk, by omega, by omega, ⟨rfl, rfl, rfl, by simp, fun k hk _ => Below.heap_alloc _ _ k hk⟩⟩
    clear hown hr hk hb hn1
    go_enter Tryz.func104, Tryz.ntmps104
    go_wp2_with fail
    exact bodyPost_ret (v := .tuple #[]) (by simp [results, Tryz.results104]) rfl ⟨rfl, _, _, HP.out⟩
  · refine (Put_any den t b n0 nn0 l0 w hown hr hk hb ht1 ht0 (hn1 ht0) hn6 hnn).mono ?_
    rintro e w' ⟨rfl, l, k, h⟩
    have hk19 := h.cnt_le (by decide) hn6
    exact ⟨rfl, l, nn0 + k, h.own, h.rise, fun x => by have := h.val x; rw [multI_one, Int.mul_zero, Int.add_zero] at this; exact this, h.keys, by omega, by have := h.len; omega, h.grow⟩
end Go.Proofs.YtphecjjblnnjdaaGreatDoor

/- (sum).told by lists; logs.Of at any fraction. -/
namespace Go.Proofs.YtphecjjblnnjdaaGreatDoor
open Go.RowKit Go.Maps

/-- A logarithm that was made here: its terms lie at the head of a row of their own. -/
def OwnAt (w : World) (v : Value) (n : Nat) (p c : Nat → Int) : Prop := (v = .slice none 0 0 ∧ n = 0) ∨ ∃ g cap, v = .slice (some ⟨g, 0, none⟩) n cap ∧ TermsAt w g 0 n p c
theorem ownAt_of_row {w : World} {base : Nat} {v : Value} {n : Nat} {p c : Nat → Int} (h : w.ownsRow base 99 2 v n (termCells p c n)) : OwnAt w v n p c := by
  have h' := h
  rcases h.2 with ⟨rfl, h0⟩ | ⟨g, cap, cur, rfl, _⟩
  · exact Or.inl ⟨rfl, h0⟩
  · exact Or.inr ⟨g, cap, rfl, termsAt_of_row h'⟩
theorem OwnAt.later {w w' : World} {v : Value} {n : Nat} {p c : Nat → Int} (h : OwnAt w v n p c) (hb : Below w.heap.size w w') : OwnAt w' v n p c := own_later h hb
/-- A logarithm by its list. -/
def ListAt (w : World) (v : Value) (t : List (Int × Int)) : Prop := OwnAt w v t.length (pOf t) (cOf t)

theorem getD_fst {l : List (Int × Int)} {i : Nat} (h : i < l.length) : (l.map Prod.fst).getD i 0 = (l.getD i (0, 0)).1 := by
  simp only [List.getD_eq_getElem?_getD, List.getElem?_map]
  rw [List.getElem?_eq_getElem h]
  rfl

/-- told: a sum that has a form. -/
theorem told_list (den : Int) (b nn : Nat) (l : List (Int × Int)) (w : World) (hown : w.ownsMap Tryz.prog 3 (plainElem (H := Unit) Tryz.prog 3) b nn (mapOf l)) (hr : Rising l) (hk : ∀ e ∈ l, 2 ≤ e.1 ∧ e.1 ≤ 1000000) (hlen : l.length ≤ 100000)
    (hb : ∀ x, -2305843009213693952 ≤ atL l x ∧ atL l x ≤ 2305843009213693952) (hd1 : 1 ≤ den) (hd2 : den ≤ 1000000000000) (G : Nat) (hG : gcdL den (atL l) (l.map Prod.fst) l.length = G) (hdq : den / (G : Int) ≤ 1000000) (hq : ∀ e ∈ l, (e.2.tdiv (G : Int)).natAbs ≤ 1099511627776) :
    Calls Tryz.prog 105 #[.agg #[.int .i64 den, .map (some b)]] w fun e w' => ∃ v, e = .returned (.tuple #[.agg #[.int .i64 (den / (G : Int)), v], .nilIface]) ∧ w'.ownsRow w.heap.size 99 2 v (overL G l).length (termCells (pOf (overL G l)) (cOf (overL G l)) (overL G l).length) ∧ Below w.heap.size w w' := by
  have hcf : ∀ e ∈ l, atL l e.1 = e.2 := fun e he => atL_mem hr he
  have ht := terms_flat (atL l) G l hcf
  have := told_ok den b nn (mapOf l) (atL l) (l.map Prod.fst) w hown (at_map l) (sort_keys hr) (by rw [size_map]; exact hlen) (by rw [List.length_map]; exact hlen)
    (fun x hx => by obtain ⟨e, he, rfl⟩ := List.mem_map.1 hx; have := hk e he; exact wf_int (by omega)) hd1 hd2 hb G (by rw [List.length_map]; exact hG) hdq
    (fun x hx => by obtain ⟨e, he, rfl⟩ := List.mem_map.1 hx; unfold quo; rw [hcf e he]; exact hq e he)
  rw [ht.1, ht.2, flat_cells] at this
  exact this

theorem gcdTo_one (c : Nat → Int) : ∀ k, gcdTo 1 c k = 1
  | 0 => rfl
  | k + 1 => by
    show Int.gcd (gcdTo 1 c k : Int) (c k) = 1
    rw [gcdTo_one c k]
    simp [Int.gcd]
theorem overL_one {l : List (Int × Int)} {e : Int × Int} (h : e ∈ overL 1 l) : e ∈ l := by
  obtain ⟨f, hf, rfl⟩ := mem_over h
  simpa using hf

/-- In form, by the list. -/
theorem okLog_list {den : Int} {t : List (Int × Int)} (hr : Rising t) (ht : ∀ e ∈ t, TermOk e.1 e.2) (hd1 : 1 ≤ den) (hd6 : den ≤ 1000000) (hg : gcdTo den (cOf t) t.length = 1) : OkLog den t.length (pOf t) (cOf t) := by
  refine ⟨hd1, hd6, fun i hi => ⟨?_, ht _ (getD_mem hi)⟩, hg⟩
  cases i with
  | zero =>
    show (1 : Int) < pOf t 0
    have := (ht _ (getD_mem hi)).2.2.2.2.1
    show (1 : Int) < (t.getD 0 (0, 0)).1
    omega
  | succ i =>
    show pOf t i < pOf t (i + 1)
    have := List.pairwise_iff_getElem.1 hr i (i + 1) (by omega) hi (by omega)
    simp only [pOf, List.getD_eq_getElem?_getD]
    rw [List.getElem?_eq_getElem hi, List.getElem?_eq_getElem (show i < t.length by omega)]
    exact this

theorem fresh_inPut {w w' : World} {b : Nat} {t : Int} {l0 l : List (Int × Int)} {n0 nn0 n k : Nat} (h : InPut w w' b t l0 n0 nn0 n l k) (hn : n = 1) : ∀ x, atL l x = atL l0 x + t * multI x n0 := fun x => by
  have := h.val x
  rw [hn, multI_one, Int.mul_zero, Int.add_zero] at this
  exact this
theorem log2_of {k n : Nat} (h : 2 ^ k * 1 ≤ n) (h6 : n ≤ 1000) : k ≤ 9 := by
  rcases Nat.lt_or_ge 9 k with h' | h'
  · have h2 : 2 ^ 10 ≤ 2 ^ k := Nat.pow_le_pow_right (by decide) h'
    have h3 : (2 : Nat) ^ 10 = 1024 := by decide
    omega
  · exact h'
theorem log2_of6 {k n : Nat} (h : 2 ^ k * 1 ≤ n) (h6 : n ≤ 1000000) : k ≤ 19 := by
  rcases Nat.lt_or_ge 19 k with h' | h'
  · have h2 : 2 ^ 20 ≤ 2 ^ k := Nat.pow_le_pow_right (by decide) h'
    have h3 : (2 : Nat) ^ 20 = 1048576 := by decide
    omega
  · exact h'

/-- What Of tells. -/
structure IsOf (a b : Nat) (t : List (Int × Int)) : Prop where
  rise : Rising t
  nz : ∀ e ∈ t, e.2 ≠ 0
  val : ∀ x, atL t x = multI x a - multI x b
  len : ∃ k j, 2 ^ k * 1 ≤ a ∧ 2 ^ j * 1 ≤ b ∧ t.length ≤ k + j

theorem IsOf.terms {a b : Nat} {t : List (Int × Int)} (h : IsOf a b t) (ha : 0 < a) (ha6 : a ≤ 1000000) (hb : 0 < b) (hb6 : b ≤ 1000000) : ∀ e ∈ t, TermOk e.1 e.2 ∧ -19 ≤ e.2 ∧ e.2 ≤ 19 := fun e he => by
  have h1 := atL_mem h.rise he
  rw [h.val] at h1
  have h2 := h.nz e he
  have h3 := multI_nonneg e.1 a
  have h4 := multI_le e.1 ha ha6
  have h5 := multI_nonneg e.1 b
  have h6 := multI_le e.1 hb hb6
  have h7 : Pr e.1.toNat ∧ 2 ≤ e.1 ∧ e.1 ≤ 1000000 := by
    by_cases hz : multI e.1 a = 0
    · obtain ⟨q1, q2, q3⟩ := multI_support (x := e.1) hb (by omega)
      exact ⟨q1, q2, by omega⟩
    · obtain ⟨q1, q2, q3⟩ := multI_support ha hz
      exact ⟨q1, q2, by omega⟩
  exact ⟨⟨h7.2.2, h2, by omega, by omega, h7.2.1, h7.1⟩, by omega, by omega⟩
theorem IsOf.ok {a b : Nat} {t : List (Int × Int)} (h : IsOf a b t) (ha : 0 < a) (ha6 : a ≤ 1000000) (hb : 0 < b) (hb6 : b ≤ 1000000) : OkLog 1 t.length (pOf t) (cOf t) :=
  okLog_list h.rise (fun e he => (h.terms ha ha6 hb hb6 e he).1) (by omega) (by omega) (gcdTo_one _ _)

set_option maxRecDepth 100000 in
set_option maxHeartbeats 1000000 in
/-- logs.Of at any fraction. -/
theorem Of_any (a b : Nat) (w : World) (ha : 1 ≤ a) (ha6 : a ≤ 1000000) (hb : 1 ≤ b) (hb6 : b ≤ 1000000) : Calls Tryz.prog 64 #[.agg #[.int .i64 a, .int .i64 b]] w fun e w' => ∃ v t, e = .returned (.tuple #[.agg #[.int .i64 1, v], .nilIface]) ∧ ListAt w' v t ∧ IsOf a b t ∧ Below w.heap.size w w' := by
  have a0 : ((w.alloc (.cells #[.int .i64 a, .int .i64 b] 102)).alloc (.cells #[.int .i64 0, .slice none 0 0] 30)).cell? ⟨w.heap.size, 0, none⟩ = some (.int .i64 a) := by simp
  have a1 : ((w.alloc (.cells #[.int .i64 a, .int .i64 b] 102)).alloc (.cells #[.int .i64 0, .slice none 0 0] 30)).cell? ⟨w.heap.size, 1, none⟩ = some (.int .i64 b) := by simp
  have r0 : ((w.alloc (.cells #[.int .i64 a, .int .i64 b] 102)).alloc (.cells #[.int .i64 0, .slice none 0 0] 30)).cell? ⟨w.heap.size + 1, 0, none⟩ = some (.int .i64 0) := by simp
  have r1 : ((w.alloc (.cells #[.int .i64 a, .int .i64 b] 102)).alloc (.cells #[.int .i64 0, .slice none 0 0] 30)).cell? ⟨w.heap.size + 1, 1, none⟩ = some (.slice none 0 0) := by simp
  have q0 : ((w.alloc (.cells #[.int .i64 a, .int .i64 b] 102)).alloc (.cells #[.int .i64 0, .slice none 0 0] 30)).frozen? ⟨w.heap.size + 1, 0, none⟩ = false := by simp
  have q1 : ((w.alloc (.cells #[.int .i64 a, .int .i64 b] 102)).alloc (.cells #[.int .i64 0, .slice none 0 0] 30)).frozen? ⟨w.heap.size + 1, 1, none⟩ = false := by simp
  have hb0 : Below w.heap.size w ((w.alloc (.cells #[.int .i64 a, .int .i64 b] 102)).alloc (.cells #[.int .i64 0, .slice none 0 0] 30)) := ((Below.refl _ _).alloc (Nat.le_refl _) _).alloc (by simp) _
  have hn := newSum_any 1 ((w.alloc (.cells #[.int .i64 a, .int .i64 b] 102)).alloc (.cells #[.int .i64 0, .slice none 0 0] 30))
  have A0 := Hid.mk' a0
  have A1 := Hid.mk' a1
  have R0 := Hid.mk' r0
  have R1 := Hid.mk' r1
  have Q0 := Hid.mk' q0
  have Q1 := Hid.mk' q1
  have B0 := Hid.mk' hb0
  clear a0 a1 r0 r1 q0 q1 hb0
  go_enter Tryz.func64, Tryz.ntmps64
  go_wp2_with (go_at_call 102; refine (hasLog_yes _ _ (by omega) (by omega)).mono ?_; rintro e w' ⟨rfl, hw'⟩; rw [hw']; clear hw')
  refine hn.mono ?_
  clear hn
  rintro e w3 ⟨rfl, hown3, hb3⟩
  simp only [World.size_alloc] at hown3 ⊢
  have a0 := (cell_past A0.out hb3).1
  have a1 := (cell_past A1.out hb3).1
  have B3 := Hid.mk' hb3
  have hs3 := hb3.size
  simp at hs3
  have hp8 := putFactors_any 1 1 (w.heap.size + 1 + 1 + 1) a 0 [] (w3.alloc (.cells #[.int .i64 1, .map (some (w.heap.size + 1 + 1 + 1))] 145)) (ownsMap_later hown3 (Below.heap_alloc _ _ _ hown3.lt)) List.Pairwise.nil (fun e he => by cases he) (fun x => by simp [atL]) (Or.inl rfl) ha ha6 (by omega)
  have L3 := Hid.mk' hown3.lt
  clear hown3 hb3
  go_wp2_with fail
  refine hp8.mono ?_
  clear hp8 a0 a1
  rintro e w5 ⟨rfl, l1, k1, hin1⟩
  have hg5 := hin1.grow
  have hb5 : Below ((w.alloc (.cells #[.int .i64 a, .int .i64 b] 102)).alloc (.cells #[.int .i64 0, .slice none 0 0] 30)).heap.size ((w.alloc (.cells #[.int .i64 a, .int .i64 b] 102)).alloc (.cells #[.int .i64 0, .slice none 0 0] 30)) w5 :=
    (B3.out.alloc B3.out.size _).grown hg5 (by simp; omega) (fun k e => by cases e; simp)
  have a1 := (cell_past A1.out hb5).2
  have l3 := L3.out
  have s0 : w5.cell? ⟨w3.heap.size, 0, none⟩ = some (.int .i64 1) := cell_beside hg5 (by simp) (by omega)
  have s1 : w5.cell? ⟨w3.heap.size, 1, none⟩ = some (.map (some (w.heap.size + 1 + 1 + 1))) := cell_beside hg5 (by simp) (by omega)
  have v1 := fresh_inPut hin1 rfl
  have hk1 := log2_of6 hin1.cnt ha6
  have hp1 := putFactors_any 1 (-1) (w.heap.size + 1 + 1 + 1) b (0 + k1) l1 w5 hin1.own hin1.rise hin1.keys (fun x => by have h1 := v1 x; have h2 := multI_nonneg x a; have h3 := multI_le x ha ha6; simp only [atL] at h1; omega) (Or.inr rfl) hb hb6 (by omega)
  have B5 := Hid.mk' hb5
  have S5 : Hid (w3.heap.size < w5.heap.size) := cell_lt s0
  have I1 := Hid.mk' hin1
  have V1 := Hid.mk' v1
  clear hin1 hg5 hb5 v1
  go_wp2_with fail
  refine hp1.mono ?_
  clear hp1
  rintro e w6 ⟨rfl, l2, k2, hin2⟩
  have hg6 := hin2.grow
  have hb6' : Below ((w.alloc (.cells #[.int .i64 a, .int .i64 b] 102)).alloc (.cells #[.int .i64 0, .slice none 0 0] 30)).heap.size ((w.alloc (.cells #[.int .i64 a, .int .i64 b] 102)).alloc (.cells #[.int .i64 0, .slice none 0 0] 30)) w6 :=
    B5.out.grown hg6 B5.out.size (fun k e => by cases e; simp)
  have t0 : w6.cell? ⟨w3.heap.size, 0, none⟩ = some (.int .i64 1) := cell_beside hg6 s0 (by omega)
  have t1 : w6.cell? ⟨w3.heap.size, 1, none⟩ = some (.map (some (w.heap.size + 1 + 1 + 1))) := cell_beside hg6 s1 (by omega)
  have v2 := fresh_inPut hin2 rfl
  have hv : ∀ x, atL l2 x = multI x a - multI x b := fun x => by have h1 := v2 x; have h2 := V1.out x; simp only [atL] at h2; omega
  have hk2 := log2_of6 hin2.cnt hb6
  have hlen2 := hin2.len
  have hlen1 := I1.out.len
  simp at hlen1
  have hbd : ∀ x, -19 ≤ atL l2 x ∧ atL l2 x ≤ 19 := fun x => by
    have h1 := hv x
    have h2 := multI_nonneg x a
    have h3 := multI_le x ha ha6
    have h4 := multI_nonneg x b
    have h5 := multI_le x hb hb6
    omega
  have ht := told_list 1 (w.heap.size + 1 + 1 + 1) _ l2 w6 hin2.own hin2.rise hin2.keys (by omega) (fun x => by have := hbd x; omega) (by omega) (by omega) 1 (gcdTo_one _ _) (by decide) (fun e he => by have h1 := hbd e.1; rw [atL_mem hin2.rise he] at h1; simp; omega)
  have hof : IsOf a b (overL 1 l2) := ⟨rising_over hin2.rise 1, fun e he => over_nz he, fun x => by rw [atL_over hin2.rise]; simpa using hv x, k1, k2, I1.out.cnt, hin2.cnt, by have := length_over l2 1; omega⟩
  have HOF := Hid.mk' hof
  have B6 := Hid.mk' hb6'
  have r0 := fun (w7 : World) (h : Below w6.heap.size w6 w7) => (cell_past R0.out (B6.out.trans (h.mono B6.out.size))).2
  have r1 := fun (w7 : World) (h : Below w6.heap.size w6 w7) => (cell_past R1.out (B6.out.trans (h.mono B6.out.size))).2
  have q0 := fun (w7 : World) (h : Below w6.heap.size w6 w7) => (frozen_past R0.out Q0.out (B6.out.trans (h.mono B6.out.size))).2
  have q1 := fun (w7 : World) (h : Below w6.heap.size w6 w7) => (frozen_past R1.out Q1.out (B6.out.trans (h.mono B6.out.size))).2
  have C0 := Hid.mk' r0
  have C1 := Hid.mk' r1
  have D0 := Hid.mk' q0
  have D1 := Hid.mk' q1
  clear hg6 hb6' s0 s1 a1 r0 r1 q0 q1 hin2 v2 hv hbd hof hlen1 hlen2
  generalize overL 1 l2 = tt at ht HOF
  go_wp2_with fail
  refine ht.mono ?_
  clear ht t0 t1
  rintro e w7 ⟨v, rfl, hrow, hb7⟩
  have c0 := C0.out w7 hb7
  have c1 := C1.out w7 hb7
  have d0 := D0.out w7 hb7
  have d1 := D1.out w7 hb7
  have hb8 : Below w.heap.size w w7 := B0.out.trans ((B6.out.trans (hb7.mono B6.out.size)).mono (by simp; omega))
  have z6 := B6.out.size
  simp at z6
  have HR := Hid.mk' hrow
  have HB8 := Hid.mk' hb8
  obtain ⟨ad, n', c', rfl⟩ : ∃ ad n' c', v = .slice ad n' c' := by
    rcases hrow.2 with ⟨rfl, _⟩ | ⟨gg, cap', cur', rfl, _⟩
    · exact ⟨_, _, _, rfl⟩
    · exact ⟨_, _, _, rfl⟩
  clear hrow hb8 hb7 C0 C1 D0 D1 A0 A1 R0 R1 Q0 Q1
  go_wp2_with fail
  refine bodyPost_ret (v := .tuple #[.agg #[.int .i64 1, .slice ad n' c'], .nilIface]) (by simp [results, Tryz.results64, go_sem, c0, c1]) rfl ⟨.slice ad n' c', tt, rfl, ?_, HOF.out, ?_⟩
  · have h1 := ownsRow_setCell_below HR.out (a := ⟨w.heap.size + 1, 0, none⟩) (by show w.heap.size + 1 < _; omega) (.int .i64 1)
    have h2 := ownsRow_setCell_below h1 (a := ⟨w.heap.size + 1, 1, none⟩) (by show w.heap.size + 1 < _; omega) (.slice ad n' c')
    exact ownAt_of_row h2
  · exact (HB8.out.setCell (by simp) _).setCell (by simp) _
end Go.Proofs.YtphecjjblnnjdaaGreatDoor

/- Greatest common divisors of lists; canonical forms: each value has one. -/
namespace Go.Proofs.YtphecjjblnnjdaaGreatDoor

theorem take_join {t : List (Int × Int)} {k : Nat} (hk : k < t.length) : t.take (k + 1) = t.take k ++ [t.getD k (0, 0)] := by
  rw [List.take_succ_eq_append_getElem hk, List.getD_eq_getElem?_getD, List.getElem?_eq_getElem hk]
  rfl
theorem OkLog.mem {den : Int} {t : List (Int × Int)} (h : OkLog den t.length (pOf t) (cOf t)) : ∀ e ∈ t, TermOk e.1 e.2 := fun e he => by
  obtain ⟨i, hi, rfl⟩ := List.getElem_of_mem he
  have := (h.2.2.1 i hi).2
  simp only [pOf, cOf, List.getD_eq_getElem?_getD] at this
  rw [List.getElem?_eq_getElem hi] at this
  exact this
theorem OkLog.rising {den : Int} {t : List (Int × Int)} (h : OkLog den t.length (pOf t) (cOf t)) : Rising t := by
  have hs : ∀ j i, i < j → j < t.length → pOf t i < pOf t j := by
    intro j
    induction j with
    | zero => intro i h1; omega
    | succ j ih =>
      intro i h1 h2
      have h3 : pOf t j < pOf t (j + 1) := (h.2.2.1 (j + 1) h2).1
      rcases Nat.lt_or_ge i j with h4 | h4
      · have := ih i h4 (by omega); omega
      · obtain rfl : i = j := by omega
        exact h3
  refine List.pairwise_iff_getElem.2 fun i j hi hj hij => ?_
  have := hs j i hij hj
  simp only [pOf, List.getD_eq_getElem?_getD] at this
  rw [List.getElem?_eq_getElem hi, List.getElem?_eq_getElem hj] at this
  exact this


/-- The greatest common divisor of a number and a list. -/
def gList : Nat → List Int → Nat
  | g, [] => g
  | g, x :: r => gList (Nat.gcd g x.natAbs) r
theorem gList_append : ∀ (L : List Int) (g : Nat) (x : Int), gList g (L ++ [x]) = Nat.gcd (gList g L) x.natAbs
  | [], _, _ => rfl
  | y :: r, g, x => gList_append r (Nat.gcd g y.natAbs) x
theorem gcdTo_list (den : Int) (t : List (Int × Int)) : ∀ k, k ≤ t.length → gcdTo den (cOf t) k = gList den.natAbs ((t.take k).map Prod.snd)
  | 0, _ => rfl
  | k + 1, h => by
    rw [take_join (by omega), List.map_append, List.map_singleton, gList_append, ← gcdTo_list den t k (by omega)]
    rfl
theorem gList_dvd : ∀ (L : List Int) (g : Nat), gList g L ∣ g ∧ ∀ x ∈ L, gList g L ∣ x.natAbs
  | [], g => ⟨Nat.dvd_refl _, fun x hx => by cases hx⟩
  | y :: r, g => by
    obtain ⟨h1, h2⟩ := gList_dvd r (Nat.gcd g y.natAbs)
    refine ⟨Nat.dvd_trans h1 (Nat.gcd_dvd_left _ _), fun x hx => ?_⟩
    rcases List.mem_cons.1 hx with rfl | hx
    · exact Nat.dvd_trans h1 (Nat.gcd_dvd_right _ _)
    · exact h2 x hx
theorem gList_greatest {d m : Nat} : ∀ (L : List Int) (g : Nat), d ∣ m * g → (∀ x ∈ L, d ∣ m * x.natAbs) → d ∣ m * gList g L
  | [], _, h, _ => h
  | y :: r, g, h, hx => gList_greatest r _ (by rw [← Nat.gcd_mul_left]; exact Nat.dvd_gcd h (hx y (List.mem_cons_self ..))) (fun x h' => hx x (List.mem_cons_of_mem _ h'))
theorem gList_zeros : ∀ (L : List Int) (g : Nat), gList g (L.filter fun x => !decide (x = 0)) = gList g L
  | [], _ => rfl
  | y :: r, g => by
    by_cases h : y = 0
    · subst h
      simp only [List.filter_cons, decide_true, Bool.not_true, Bool.false_eq_true, if_false, gList, Int.natAbs_zero, Nat.gcd_zero_right]
      exact gList_zeros r g
    · simp only [List.filter_cons, h, decide_false, Bool.not_false, if_true, gList]
      exact gList_zeros r _
theorem gList_times (G : Nat) : ∀ (L : List Int) (g : Nat), gList (G * g) (L.map fun x => (G : Int) * x) = G * gList g L
  | [], _ => rfl
  | y :: r, g => by
    simp only [List.map_cons, gList]
    rw [Int.natAbs_mul, Int.natAbs_natCast, Nat.gcd_mul_left]
    exact gList_times G r _

/-- In form, but for the bounds. -/
structure Canon (d : Nat) (t : List (Int × Int)) : Prop where
  pos : 0 < d
  rise : Rising t
  nz : ∀ e ∈ t, e.2 ≠ 0
  one : gList d (t.map Prod.snd) = 1
theorem canon_dvd {d d' : Nat} {t t' : List (Int × Int)} (h : Canon d t) (he : ∀ x, atL t x * (d' : Int) = atL t' x * (d : Int)) : d ∣ d' := by
  have := gList_greatest (d := d) (m := d') (t.map Prod.snd) d (Nat.dvd_mul_left d d') (fun x hx => by
    obtain ⟨e, he', rfl⟩ := List.mem_map.1 hx
    have h1 := he e.1
    rw [atL_mem h.rise he'] at h1
    refine ⟨(atL t' e.1).natAbs, ?_⟩
    have h2 := congrArg Int.natAbs h1
    rw [Int.natAbs_mul, Int.natAbs_mul, Int.natAbs_natCast, Int.natAbs_natCast] at h2
    rw [Nat.mul_comm d' e.2.natAbs, h2, Nat.mul_comm])
  rw [h.one, Nat.mul_one] at this
  exact this
/-- One value, one form. -/
theorem canon_uniq {d d' : Nat} {t t' : List (Int × Int)} (h : Canon d t) (h' : Canon d' t') (he : ∀ x, atL t x * (d' : Int) = atL t' x * (d : Int)) : d = d' ∧ t = t' := by
  have hd : d = d' := Nat.dvd_antisymm (canon_dvd h he) (canon_dvd h' (fun x => (he x).symm))
  subst hd
  refine ⟨rfl, rising_ext h.rise h'.rise h.nz h'.nz (fun x => ?_)⟩
  have hp : (d : Int) ≠ 0 := by have := h.pos; omega
  exact Int.eq_of_mul_eq_mul_right hp (he x)
theorem OkLog.canon {d : Nat} {t : List (Int × Int)} (h : OkLog d t.length (pOf t) (cOf t)) : Canon d t := by
  refine ⟨by have := h.1; omega, h.rising, fun e he => (h.mem e he).2.1, ?_⟩
  have := h.2.2.2
  rw [gcdTo_list _ _ _ (Nat.le_refl _), List.take_length, Int.natAbs_natCast] at this
  exact this

theorem over_snd (G : Nat) : ∀ l : List (Int × Int), (overL G l).map Prod.snd = (l.map fun e => e.2.tdiv (G : Int)).filter fun x => !decide (x = 0)
  | [] => rfl
  | e :: r => by
    have ih := over_snd G r
    unfold overL at ih ⊢
    by_cases h : e.2.tdiv (G : Int) = 0
    · simp only [List.map_cons, List.filter_cons, h, decide_true, Bool.not_true, Bool.false_eq_true, if_false]
      exact ih
    · simp only [List.map_cons, List.filter_cons, h, decide_false, Bool.not_false, if_true, List.map_cons]
      rw [ih]
/-- A sum over its common divisor is in form, but for the bounds. -/
theorem over_canon {D G : Nat} {l : List (Int × Int)} (hD : 0 < D) (hr : Rising l) (hG : gcdL (D : Int) (atL l) (l.map Prod.fst) l.length = G) : G ∣ D ∧ 0 < G ∧ (∀ x, atL l x = (G : Int) * atL (overL G l) x) ∧ Canon (D / G) (overL G l) := by
  have h0 : gcdL (D : Int) (atL l) (l.map Prod.fst) l.length = gcdTo (D : Int) (cOf l) l.length := by
    have aux : ∀ k, k ≤ l.length → gcdTo (D : Int) (fun i => atL l ((l.map Prod.fst).getD i 0)) k = gcdTo (D : Int) (cOf l) k := by
      intro k
      induction k with
      | zero => intro _; rfl
      | succ k ih =>
        intro hk
        show Int.gcd (gcdTo (D : Int) (fun i => atL l ((l.map Prod.fst).getD i 0)) k : Int) (atL l ((l.map Prod.fst).getD k 0)) = Int.gcd (gcdTo (D : Int) (cOf l) k : Int) (cOf l k)
        rw [ih (by omega)]
        have : atL l ((l.map Prod.fst).getD k 0) = cOf l k := by rw [getD_fst (by omega)]; exact atL_mem hr (getD_mem (by omega))
        rw [this]
    exact aux _ (Nat.le_refl _)
  rw [h0, gcdTo_list _ _ _ (Nat.le_refl _), List.take_length, Int.natAbs_natCast] at hG
  obtain ⟨g1, g2⟩ := gList_dvd (l.map Prod.snd) D
  rw [hG] at g1 g2
  have hGp : 0 < G := Nat.pos_of_dvd_of_pos g1 hD
  have hex : ∀ e ∈ l, e.2 = (G : Int) * e.2.tdiv (G : Int) := fun e he => by
    have h1 : (G : Int) ∣ e.2 := Int.ofNat_dvd_left.2 (g2 _ (List.mem_map.2 ⟨e, he, rfl⟩))
    exact (Int.mul_tdiv_cancel' h1).symm
  have hval : ∀ x, atL l x = (G : Int) * atL (overL G l) x := fun x => by
    rw [atL_over hr]
    by_cases hx : atL l x = 0
    · rw [hx]; simp
    · exact hex _ (atL_some hx)
  refine ⟨g1, hGp, hval, ⟨Nat.div_pos (Nat.le_of_dvd hD g1) hGp, rising_over hr G, fun e he => over_nz he, ?_⟩⟩
  have h1 : l.map Prod.snd = (l.map fun e => e.2.tdiv (G : Int)).map fun x => (G : Int) * x := by
    rw [List.map_map]
    exact List.map_congr_left fun e he => hex e he
  have h2 := over_snd G l
  rw [h2, gList_zeros]
  have h3 := gList_times G (l.map fun e => e.2.tdiv (G : Int)) (D / G)
  rw [← h1, Nat.mul_div_cancel' g1, hG] at h3
  exact Nat.eq_of_mul_eq_mul_left hGp (by rw [← h3, Nat.mul_one])
end Go.Proofs.YtphecjjblnnjdaaGreatDoor

/- Fractions over one denominator in their lowest terms; sums by rising lists. -/
namespace Go.Proofs.YtphecjjblnnjdaaGreatDoor

def lowG (M : Nat) (z : Int) : Nat := Nat.gcd z.natAbs M
def lowN (M : Nat) (z : Int) : Int := z.tdiv (lowG M z : Int)
def lowD (M : Nat) (z : Int) : Nat := M / lowG M z

theorem low_parts {n : Int} {d : Nat} (hd : 0 < d) : 0 < Nat.gcd n.natAbs d ∧ n = ((Nat.gcd n.natAbs d : Nat) : Int) * n.tdiv ((Nat.gcd n.natAbs d : Nat) : Int) ∧ d = Nat.gcd n.natAbs d * (d / Nat.gcd n.natAbs d) ∧ Nat.Coprime (n.tdiv ((Nat.gcd n.natAbs d : Nat) : Int)).natAbs (d / Nat.gcd n.natAbs d) ∧ (n.tdiv ((Nat.gcd n.natAbs d : Nat) : Int)).natAbs = n.natAbs / Nat.gcd n.natAbs d ∧ 0 < d / Nat.gcd n.natAbs d := by
  have hg : 0 < Nat.gcd n.natAbs d := Nat.gcd_pos_of_pos_right _ hd
  have h1 : Nat.gcd n.natAbs d ∣ n.natAbs := Nat.gcd_dvd_left _ _
  have h2 : Nat.gcd n.natAbs d ∣ d := Nat.gcd_dvd_right _ _
  have h3 : (n.tdiv ((Nat.gcd n.natAbs d : Nat) : Int)).natAbs = n.natAbs / Nat.gcd n.natAbs d := by rw [Int.natAbs_tdiv]; rfl
  refine ⟨hg, ?_, (Nat.mul_div_cancel' h2).symm, ?_, h3, Nat.div_pos (Nat.le_of_dvd hd h2) hg⟩
  · rw [Int.mul_tdiv_cancel' (Int.ofNat_dvd_left.2 h1)]
  · rw [h3]
    exact Nat.coprime_div_gcd_div_gcd hg
theorem lowG_pos {M : Nat} (h : 0 < M) (z : Int) : 0 < lowG M z := Nat.gcd_pos_of_pos_right _ h
theorem lowD_pos {M : Nat} (h : 0 < M) (z : Int) : 0 < lowD M z := (low_parts (n := z) h).2.2.2.2.2
theorem lowD_le (M : Nat) (z : Int) : lowD M z ≤ M := Nat.div_le_self _ _
theorem lowN_le {M : Nat} (h : 0 < M) (z : Int) : (lowN M z).natAbs ≤ z.natAbs := by
  have := (low_parts (n := z) h).2.2.2.2.1
  show (z.tdiv ((Nat.gcd z.natAbs M : Nat) : Int)).natAbs ≤ _
  rw [this]
  exact Nat.div_le_self _ _
theorem low_cross {M : Nat} (h : 0 < M) (z : Int) : lowN M z * (M : Int) = z * (lowD M z : Int) := by
  obtain ⟨_, h1, h2, _⟩ := low_parts (n := z) h
  have h2' : (M : Int) = ((Nat.gcd z.natAbs M : Nat) : Int) * ((M / Nat.gcd z.natAbs M : Nat) : Int) := by rw [← Int.natCast_mul, ← h2]
  show z.tdiv ((Nat.gcd z.natAbs M : Nat) : Int) * (M : Int) = z * ((M / Nat.gcd z.natAbs M : Nat) : Int)
  generalize Nat.gcd z.natAbs M = g at *
  generalize M / g = q at *
  generalize z.tdiv (g : Int) = t at *
  rw [h2', h1, ← Int.mul_assoc, Int.mul_comm t]
/-- One fraction has one lowest form. -/
theorem low_same {M d : Nat} {z n : Int} (hM : 0 < M) (hd : 0 < d) (h : n * (M : Int) = z * (d : Int)) : n.tdiv ((Nat.gcd n.natAbs d : Nat) : Int) = lowN M z ∧ d / Nat.gcd n.natAbs d = lowD M z := by
  obtain ⟨g1, g2, g3, g4, _, g6⟩ := low_parts (n := n) hd
  obtain ⟨k1, k2, k3, k4, _, k6⟩ := low_parts (n := z) hM
  show _ = z.tdiv ((Nat.gcd z.natAbs M : Nat) : Int) ∧ _ = M / Nat.gcd z.natAbs M
  generalize Nat.gcd n.natAbs d = g at *
  generalize Nat.gcd z.natAbs M = k at *
  generalize n.tdiv (g : Int) = n' at *
  generalize z.tdiv (k : Int) = z' at *
  generalize d / g = d' at *
  generalize M / k = m' at *
  have h1 : n' * (m' : Int) = z' * (d' : Int) := by
    have h2 : ((g : Int) * (k : Int)) * (n' * (m' : Int)) = ((g : Int) * (k : Int)) * (z' * (d' : Int)) := by
      calc ((g : Int) * (k : Int)) * (n' * (m' : Int)) = ((g : Int) * n') * ((k : Int) * (m' : Int)) := by grind
        _ = n * (M : Int) := by rw [← g2, ← Int.natCast_mul, ← k3]
        _ = z * (d : Int) := h
        _ = ((k : Int) * z') * ((g : Int) * (d' : Int)) := by rw [← k2, ← Int.natCast_mul, ← g3]
        _ = _ := by grind
    refine Int.eq_of_mul_eq_mul_left ?_ h2
    intro h0
    rcases Int.mul_eq_zero.1 h0 with h3 | h3 <;> omega
  have h2 : n'.natAbs * m' = z'.natAbs * d' := by
    have := congrArg Int.natAbs h1
    rwa [Int.natAbs_mul, Int.natAbs_mul, Int.natAbs_natCast, Int.natAbs_natCast] at this
  have h3 : m' ∣ d' := k4.symm.dvd_of_dvd_mul_left ⟨n'.natAbs, by rw [← h2, Nat.mul_comm]⟩
  have h4 : d' ∣ m' := g4.symm.dvd_of_dvd_mul_left ⟨z'.natAbs, by rw [h2, Nat.mul_comm]⟩
  have h5 : d' = m' := Nat.dvd_antisymm h4 h3
  subst h5
  exact ⟨Int.eq_of_mul_eq_mul_right (by omega) h1, rfl⟩
theorem low_plus {M : Nat} (hM : 0 < M) (z1 z2 : Int) : (lowN M z1 * (lowD M z2 : Int) + lowN M z2 * (lowD M z1 : Int)).tdiv ((Nat.gcd (lowN M z1 * (lowD M z2 : Int) + lowN M z2 * (lowD M z1 : Int)).natAbs (lowD M z1 * lowD M z2) : Nat) : Int) = lowN M (z1 + z2) ∧ lowD M z1 * lowD M z2 / Nat.gcd (lowN M z1 * (lowD M z2 : Int) + lowN M z2 * (lowD M z1 : Int)).natAbs (lowD M z1 * lowD M z2) = lowD M (z1 + z2) := by
  refine low_same hM (Nat.mul_pos (lowD_pos hM z1) (lowD_pos hM z2)) ?_
  have h1 := low_cross hM z1
  have h2 := low_cross hM z2
  rw [Int.natCast_mul]
  generalize lowN M z1 = a at *
  generalize lowN M z2 = b at *
  generalize (lowD M z1 : Int) = c at *
  generalize (lowD M z2 : Int) = e at *
  generalize (M : Int) = m at *
  grind
theorem low_one (z : Int) : lowN 1 z = z ∧ lowD 1 z = 1 := by
  unfold lowN lowD lowG
  rw [Nat.gcd_one_right]
  exact ⟨Int.tdiv_one z, rfl⟩

/-- A sum with a prime more. -/
structure Put (l l' : List (Int × Int)) (p z : Int) : Prop where
  rise : Rising l'
  val : ∀ x, atL l' x = atL l x + if x = p then z else 0
  len : l'.length ≤ l.length + 1
  keys : ∀ e ∈ l', e.1 = p ∨ ∃ f ∈ l, f.1 = e.1
theorem atL_two : ∀ (A B : List (Int × Int)) (x : Int), atL (A ++ B) x = if (∃ e ∈ A, e.1 = x) then atL A x else atL B x
  | [], B, x => by simp
  | e :: A, B, x => by
    show (if e.1 = x then e.2 else atL (A ++ B) x) = _
    by_cases h : e.1 = x
    · rw [if_pos h, if_pos ⟨e, List.mem_cons_self .., h⟩]
      show _ = if e.1 = x then e.2 else atL A x
      rw [if_pos h]
    · rw [if_neg h, atL_two A B x]
      show _ = if _ then (if e.1 = x then e.2 else atL A x) else _
      rw [if_neg h]
      have hi : (∃ f ∈ e :: A, f.1 = x) ↔ ∃ f ∈ A, f.1 = x := by
        constructor
        · rintro ⟨f, hf, hx⟩
          rcases List.mem_cons.1 hf with rfl | hf
          · exact absurd hx h
          · exact ⟨f, hf, hx⟩
        · rintro ⟨f, hf, hx⟩
          exact ⟨f, List.mem_cons_of_mem _ hf, hx⟩
      by_cases hA : ∃ f ∈ A, f.1 = x
      · rw [if_pos hA, if_pos (hi.2 hA)]
      · rw [if_neg hA, if_neg (fun h => hA (hi.1 h))]
theorem put_found {A R : List (Int × Int)} {p v z : Int} (h : Rising (A ++ (p, v) :: R)) : Put (A ++ (p, v) :: R) (A ++ (p, v + z) :: R) p z := by
  have h' := List.pairwise_append.1 h
  refine ⟨List.pairwise_append.2 ⟨h'.1, ?_, ?_⟩, fun x => ?_, by simp, fun e he => ?_⟩
  · have := List.pairwise_cons.1 h'.2.1
    exact List.pairwise_cons.2 ⟨fun b hb => this.1 b hb, this.2⟩
  · intro a ha b hb
    rcases List.mem_cons.1 hb with rfl | hb
    · exact h'.2.2 a ha (p, v) (List.mem_cons_self ..)
    · exact h'.2.2 a ha b (List.mem_cons_of_mem _ hb)
  · rw [atL_two, atL_two]
    by_cases hA : ∃ e ∈ A, e.1 = x
    · rw [if_pos hA, if_pos hA]
      obtain ⟨e, he, hx⟩ := hA
      have := h'.2.2 e he (p, v) (List.mem_cons_self ..)
      rw [if_neg (by simp only at this; omega)]
      omega
    · rw [if_neg hA, if_neg hA]
      show (if p = x then v + z else atL R x) = (if p = x then v else atL R x) + _
      by_cases hp : p = x
      · rw [if_pos hp, if_pos hp, if_pos hp.symm]
      · rw [if_neg hp, if_neg hp, if_neg (Ne.symm hp)]; omega
  · rcases List.mem_append.1 he with he | he
    · exact Or.inr ⟨e, List.mem_append_left _ he, rfl⟩
    · rcases List.mem_cons.1 he with rfl | he
      · exact Or.inl rfl
      · exact Or.inr ⟨e, List.mem_append_right _ (List.mem_cons_of_mem _ he), rfl⟩
theorem put_new {A R : List (Int × Int)} {p z : Int} (h : Rising (A ++ R)) (hA : ∀ e ∈ A, e.1 < p) (hR : ∀ e ∈ R, p < e.1) : Put (A ++ R) (A ++ (p, z) :: R) p z := by
  have h' := List.pairwise_append.1 h
  refine ⟨List.pairwise_append.2 ⟨h'.1, List.pairwise_cons.2 ⟨fun b hb => hR b hb, h'.2.1⟩, ?_⟩, fun x => ?_, by simp; omega, fun e he => ?_⟩
  · intro a ha b hb
    rcases List.mem_cons.1 hb with rfl | hb
    · exact hA a ha
    · exact h'.2.2 a ha b hb
  · rw [atL_two, atL_two]
    by_cases hA' : ∃ e ∈ A, e.1 = x
    · rw [if_pos hA', if_pos hA']
      obtain ⟨e, he, hx⟩ := hA'
      have := hA e he
      rw [if_neg (by omega)]
      omega
    · rw [if_neg hA', if_neg hA']
      show (if p = x then z else atL R x) = _
      by_cases hp : p = x
      · rw [if_pos hp, if_pos hp.symm, atL_none (fun e he => by have := hR e he; omega)]; omega
      · rw [if_neg hp, if_neg (Ne.symm hp)]; omega
  · rcases List.mem_append.1 he with he | he
    · exact Or.inr ⟨e, List.mem_append_left _ he, rfl⟩
    · rcases List.mem_cons.1 he with rfl | he
      · exact Or.inl rfl
      · exact Or.inr ⟨e, List.mem_append_right _ he, rfl⟩

/-- The least common multiple, as Told makes it. -/
theorem lcm_part {M a b : Nat} (hM : 0 < M) (ha : a ∣ M) (hb : b ∣ M) : M / a * (M / b / Nat.gcd (M / a) (M / b)) = M / Nat.gcd a b := by
  obtain ⟨a', rfl⟩ := ha
  obtain ⟨b', hb'⟩ := hb
  have pa : 0 < a := Nat.pos_of_mul_pos_right hM
  have pa' : 0 < a' := Nat.pos_of_mul_pos_left hM
  have pb : 0 < b := by rw [hb'] at hM; exact Nat.pos_of_mul_pos_right hM
  rw [Nat.mul_div_cancel_left _ pa]
  have e1 : a * a' / b = b' := by rw [hb', Nat.mul_div_cancel_left _ pb]
  rw [e1]
  have hg : 0 < Nat.gcd a' b' := Nat.gcd_pos_of_pos_left _ pa'
  have hh : 0 < Nat.gcd a b := Nat.gcd_pos_of_pos_left _ pa
  have key : b' * Nat.gcd a b = a * Nat.gcd a' b' := by
    rw [Nat.mul_comm b', ← Nat.gcd_mul_right, ← hb', Nat.gcd_mul_left, Nat.gcd_comm b' a']
  have hc : b' = Nat.gcd a' b' * (b' / Nat.gcd a' b') := (Nat.mul_div_cancel' (Nat.gcd_dvd_right a' b')).symm
  generalize b' / Nat.gcd a' b' = c at *
  generalize Nat.gcd a' b' = g' at *
  generalize Nat.gcd a b = h at *
  have h1 : g' * (c * h) = g' * a := by rw [← Nat.mul_assoc, ← hc, key, Nat.mul_comm]
  have h2 : c * h = a := Nat.eq_of_mul_eq_mul_left hg h1
  rw [← h2, Nat.mul_right_comm, Nat.mul_div_cancel _ hh, Nat.mul_comm]
end Go.Proofs.YtphecjjblnnjdaaGreatDoor

/- The document's differences. -/
namespace Go.Proofs.YtphecjjblnnjdaaGreatDoor
open Go.RowKit

set_option maxRecDepth 10000 in
set_option maxHeartbeats 4000000 in
/-- Minus: the difference, in its lowest terms. -/
theorem Minus_ratio (v1 v2 : Value) (n1 n2 : Int) (d1 d2 k : Nat) (w : World) (h1 : RatioAt w v1 n1 d1) (h2 : RatioAt w v2 n2 d2) (hd1 : 0 < d1) (hd2 : 0 < d2) (hn1 : n1.natAbs < 1000000 ^ k) (hn2 : n2.natAbs < 1000000 ^ k) (hk1 : d1 < 1000000 ^ k) (hk2 : d2 < 1000000 ^ k) (hk : k + k + 1 + 1 ≤ 1000000) :
    Calls Tryz.prog 40 #[v1, v2] w fun e w' => ∃ r, e = .returned r ∧ RatioAt w' r ((n1 * d2 + -n2 * d1).tdiv ((Nat.gcd (n1 * d2 + -n2 * d1).natAbs (d1 * d2) : Nat) : Int)) (d1 * d2 / Nat.gcd (n1 * d2 + -n2 * d1).natAbs (d1 * d2)) ∧ Below w.heap.size w w' := by
  obtain ⟨u1, q1, rfl, hu1, hq1⟩ := h1
  obtain ⟨u2, q2, rfl, hu2, hq2⟩ := h2
  obtain ⟨ad1, l1, cap1, rfl, _⟩ := hu1.len
  obtain ⟨bd1, m1, bap1, rfl, _⟩ := hq1.len
  obtain ⟨ad2, l2, cap2, rfl, _⟩ := hu2.len
  obtain ⟨bd2, m2, bap2, rfl, _⟩ := hq2.len
  obtain ⟨s1, hs1⟩ : ∃ s, decide (n1 < 0) = s := ⟨_, rfl⟩
  obtain ⟨s2, hs2⟩ : ∃ s, decide (n2 < 0) = s := ⟨_, rfl⟩
  rw [hs1, hs2]
  have hB0 : Below w.heap.size w (((w.alloc (.cells #[.bool s1, .slice ad1 l1 cap1, .slice bd1 m1 bap1] 54)).alloc (.cells #[.bool s2, .slice ad2 l2 cap2, .slice bd2 m2 bap2] 54)).alloc (.cells #[.bool false, .slice none 0 0, .slice none 0 0] 54)) := (((Below.refl _ _).alloc (Nat.le_refl _) _).alloc (by simp) _).alloc (by simp; omega) _
  have hN := noInts_third3 w (.cells #[.bool s1, .slice ad1 l1 cap1, .slice bd1 m1 bap1] 54) (.cells #[.bool s2, .slice ad2 l2 cap2, .slice bd2 m2 bap2] 54) 54
  have hNP := fun (w1 : World) => nine_past (w := w) (w1 := w1) (x0 := .bool s1) (x1 := .slice ad1 l1 cap1) (x2 := .slice bd1 m1 bap1) (y0 := .bool s2) (y1 := .slice ad2 l2 cap2) (y2 := .slice bd2 m2 bap2) (r0 := .bool false) (r1 := .slice none 0 0) (r2 := .slice none 0 0) (t := 54)
  have hz0 : w.heap.size + 1 + 1 + 1 = (((w.alloc (.cells #[.bool s1, .slice ad1 l1 cap1, .slice bd1 m1 bap1] 54)).alloc (.cells #[.bool s2, .slice ad2 l2 cap2, .slice bd2 m2 bap2] 54)).alloc (.cells #[.bool false, .slice none 0 0, .slice none 0 0] 54)).heap.size := by simp
  generalize hW : (((w.alloc (.cells #[.bool s1, .slice ad1 l1 cap1, .slice bd1 m1 bap1] 54)).alloc (.cells #[.bool s2, .slice ad2 l2 cap2, .slice bd2 m2 bap2] 54)).alloc (.cells #[.bool false, .slice none 0 0, .slice none 0 0] 54)) = W0 at hB0 hN hNP hz0
  have hKS : ∀ W, Below (w.heap.size + 1 + 1) W0 W → (W.cell? ⟨w.heap.size, 0, none⟩ = some (.bool s1) ∧ W.cell? ⟨w.heap.size, 1, none⟩ = some (.slice ad1 l1 cap1) ∧ W.cell? ⟨w.heap.size, 2, none⟩ = some (.slice bd1 m1 bap1)) ∧ (W.cell? ⟨w.heap.size + 1, 0, none⟩ = some (.bool s2) ∧ W.cell? ⟨w.heap.size + 1, 1, none⟩ = some (.slice ad2 l2 cap2) ∧ W.cell? ⟨w.heap.size + 1, 2, none⟩ = some (.slice bd2 m2 bap2)) := fun W hb => by
    obtain ⟨⟨a0, a1, a2⟩, ⟨b0, b1, b2⟩, _⟩ := hNP W0 (Below.refl _ _)
    have ha : ∀ j v, W0.cell? ⟨w.heap.size, j, none⟩ = some v → W.cell? ⟨w.heap.size, j, none⟩ = some v := fun j v h => by rw [hb.cell (p := ⟨w.heap.size, j, none⟩) (by show w.heap.size < _; omega)]; exact h
    have hb' : ∀ j v, W0.cell? ⟨w.heap.size + 1, j, none⟩ = some v → W.cell? ⟨w.heap.size + 1, j, none⟩ = some v := fun j v h => by rw [hb.cell (p := ⟨w.heap.size + 1, j, none⟩) (by show w.heap.size + 1 < _; omega)]; exact h
    exact ⟨⟨ha 0 _ a0, ha 1 _ a1, ha 2 _ a2⟩, ⟨hb' 0 _ b0, hb' 1 _ b1, hb' 2 _ b2⟩⟩
  have HS2 := Hid.mk' (show SignedAt W0.drew (.agg #[.bool s2, .slice ad2 l2 cap2]) n2 from ⟨_, by rw [hs2], (hu2.later hB0).later ((Below.refl _ _).drew)⟩)
  have HD2 := Hid.mk' ((hq2.later hB0).later ((Below.refl _ _).drew))
  have HR1 := Hid.mk' (show RatioAt W0.drew (.agg #[.bool s1, .slice ad1 l1 cap1, .slice bd1 m1 bap1]) n1 d1 from ⟨_, _, by rw [hs1], (hu1.later hB0).later ((Below.refl _ _).drew), (hq1.later hB0).later ((Below.refl _ _).drew)⟩)
  have hback := SignedBack_any _ n2 W0.drew HS2.out
  have HBACK := Hid.mk' hback
  have HKS := Hid.mk' hKS
  have HW := Hid.mk' hW
  have HNP := Hid.mk' hNP
  have HN := Hid.mk' hN
  have HB := Hid.mk' hB0
  have HBD : Hid (n1.natAbs < 1000000 ^ k ∧ (-n2).natAbs < 1000000 ^ k ∧ d1 < 1000000 ^ k ∧ d2 < 1000000 ^ k) := ⟨hn1, by rw [Int.natAbs_neg]; exact hn2, hk1, hk2⟩
  have hcur0 : Below (w.heap.size + 1 + 1) W0 W0 := Below.refl _ _
  have hcur : Below (w.heap.size + 1 + 1) W0 W0.drew := (Below.refl _ _).drew
  obtain ⟨zz, hzz⟩ : ∃ zz, zz = n1 * (d2 : Int) + -n2 * (d1 : Int) := ⟨_, rfl⟩
  rw [← hzz]
  have HZZ := Hid.mk' hzz
  clear hs1 hs2 hu1 hu2 hq1 hq2 hB0 hN hNP hW hKS hback hn1 hn2 hk1 hk2 hzz
  go_enter Tryz.func40, Tryz.ntmps40
  go_wp2_with fail
  rw [HW.out]
  go_region_held3 (fun W => (W.cell? ⟨w.heap.size, 0, none⟩ = some (.bool s1) ∧ W.cell? ⟨w.heap.size, 1, none⟩ = some (.slice ad1 l1 cap1) ∧ W.cell? ⟨w.heap.size, 2, none⟩ = some (.slice bd1 m1 bap1)) ∧ (W.cell? ⟨w.heap.size + 1, 0, none⟩ = some (.bool s2) ∧ W.cell? ⟨w.heap.size + 1, 1, none⟩ = some (.slice ad2 l2 cap2) ∧ W.cell? ⟨w.heap.size + 1, 2, none⟩ = some (.slice bd2 m2 bap2)))
    (first | exact HKS.out _ hcur0 | exact HKS.out _ hcur | exact HKS.out _ hc1 | exact HKS.out _ hc3 | exact HKS.out _ (below_set3 hc3 (Nat.le_refl _) _ _ _))
    (first
      | (go_at_call 54; refine HBACK.out.mono ?_; rintro e w1 ⟨sv, rfl, ⟨us, rfl, hus⟩, hb1⟩; obtain ⟨sg, hsg⟩ : ∃ sg, decide (-n2 < 0) = sg := ⟨_, rfl⟩; rw [hsg]; obtain ⟨ad3, l3, cap3, rfl, _⟩ := hus.len; have hbw1 := below_chain ((Below.refl _ _).drew) hb1; have hc1 : Below (w.heap.size + 1 + 1) W0 w1 := hbw1.mono (by omega); have HRA : Hid (RatioAt w1 (.agg #[.bool sg, .slice ad3 l3 cap3, .slice bd2 m2 bap2]) (-n2) d2) := ⟨_, _, by rw [hsg], hus, HD2.out.later hb1⟩; have HRB := Hid.mk' (HR1.out.later hb1); have HBW1 := Hid.mk' hbw1; clear hus hb1 hbw1 hsg)
      | (go_at_call 49; refine (Plus_ratio _ _ n1 (-n2) d1 d2 k w1 HRB.out HRA.out hd1 hd2 HBD.out.1 HBD.out.2.1 HBD.out.2.2.1 HBD.out.2.2.2 hk).mono ?_; rintro e w3 ⟨rv, rfl, hrv, hb3⟩; rw [← HZZ.out] at hrv; obtain ⟨ur, qr, rfl, hur, hqr⟩ := hrv; obtain ⟨ad5, l5, cap5, rfl, _⟩ := hur.len; obtain ⟨ad6, l6, cap6, rfl, _⟩ := hqr.len; have hbw3 := below_chain HBW1.out hb3; have hc3 : Below (w.heap.size + 1 + 1) W0 w3 := hbw3.mono (by omega); obtain ⟨_, _, ⟨c0, c1, c2⟩, f0, f1, f2⟩ := HNP.out w3 hbw3; have HUR := Hid.mk' hur; have HQR := Hid.mk' hqr; have HBW3 := Hid.mk' hbw3; clear hur hqr hb3 hbw3))
  go_wp2_with fail
  refine bodyPost_ret (v := .agg #[.bool (decide (zz.tdiv ((Nat.gcd zz.natAbs (d1 * d2) : Nat) : Int) < 0)), .slice ad5 l5 cap5, .slice ad6 l6 cap6]) (by simp [results, Tryz.results40, go_sem, c0, c1, c2]) rfl ⟨_, rfl, ⟨_, _, rfl, HUR.out.set3 (HN.out.later (by omega) HBW3.out) c0 c1, HQR.out.set3 (HN.out.later (by omega) HBW3.out) c0 c1⟩, below_set3 (below_chain HB.out HBW3.out) (by omega) _ _ _⟩

/-- What is less than nothing by a part of M. -/
theorem low_minus {M : Nat} (hM : 0 < M) (z : Int) : (0 * (lowD M z : Int) + -lowN M z * (1 : Nat)).tdiv ((Nat.gcd (0 * (lowD M z : Int) + -lowN M z * (1 : Nat)).natAbs (1 * lowD M z) : Nat) : Int) = lowN M (-z) ∧ 1 * lowD M z / Nat.gcd (0 * (lowD M z : Int) + -lowN M z * (1 : Nat)).natAbs (1 * lowD M z) = lowD M (-z) := by
  refine low_same hM (by have := lowD_pos hM z; omega) ?_
  have h1 := low_cross hM z
  rw [Nat.one_mul]
  generalize lowN M z = a at *
  generalize (lowD M z : Int) = c at *
  simp only [Int.zero_mul, Int.zero_add, Int.natCast_one, Int.mul_one]
  rw [Int.neg_mul, h1, Int.neg_mul]
/-- A part of a part: n of M times x of n is x of M. -/
theorem low_times {M n : Nat} (hM : 0 < M) (hn : 0 < n) (x : Int) : (lowN M n * lowN n x).tdiv ((Nat.gcd (lowN M n * lowN n x).natAbs (lowD M n * lowD n x) : Nat) : Int) = lowN M x ∧ lowD M n * lowD n x / Nat.gcd (lowN M n * lowN n x).natAbs (lowD M n * lowD n x) = lowD M x := by
  refine low_same hM (Nat.mul_pos (lowD_pos hM n) (lowD_pos hn x)) ?_
  have h1 := low_cross hM (n : Int)
  have h2 := low_cross hn x
  rw [Int.natCast_mul]
  generalize lowN M n = a at *
  generalize lowN n x = b at *
  generalize (lowD M n : Int) = c at *
  generalize (lowD n x : Int) = e at *
  calc a * b * (M : Int) = (a * (M : Int)) * b := by rw [Int.mul_assoc, Int.mul_comm b, ← Int.mul_assoc]
    _ = (b * (n : Int)) * c := by rw [h1, Int.mul_comm (n : Int) c, Int.mul_assoc, Int.mul_comm c, Int.mul_comm (n : Int) b]
    _ = x * (c * e) := by rw [h2, Int.mul_assoc, Int.mul_comm e c]
theorem low_self {M : Nat} (hM : 0 < M) : lowN M M = 1 ∧ lowD M M = 1 := by
  have h := low_same (M := M) (d := 1) (z := (M : Int)) (n := 1) hM (by decide) (by simp)
  simpa using And.intro h.1.symm h.2.symm
end Go.Proofs.YtphecjjblnnjdaaGreatDoor

/- A logarithm while the document makes it: two rows behind a pointer. -/
namespace Go.Proofs.YtphecjjblnnjdaaGreatDoor
open Go.RowKit

section
variable {P : Program} (w : World)
/-- append of nothing, or of what lies somewhere, to a row of one's own. -/
theorem run_append_src (t ty : TypeId) (base : Nat) (e : TypeId) (i : TypeInfo) (z : Value) (size bytes : Nat) (ht : P.underlying t = some (.slice e)) (hi : P.info? e = some i) (hz : i.zero = some z)
    (hsize : i.size = size) (hby : i.bytes = bytes) (hzs : z.cells.size = size) (hsz : 0 < size)
    (v : Value) (n : Nat) (xs : List Value) (hown : w.ownsRow base e size v n xs)
    (ad : Option Addr) (m c : Nat) (news : List Value) (hl : news.length = m * size) (hnews : ∀ j u, news[j]? = some u → ∃ a', ad = some a' ∧ w.cell? (a'.add j) = some u) (h1 : ∀ u ∈ news, u.oneCell' = true)
    (h63 : n + m ≤ maxLen) (hbytes : (n + m) * bytes ≤ 140737488355328) (hbase : base ≤ w.heap.size) :
    ∃ v' w', (Builtin.append_ #[t, t] ty #[v, .slice ad m c]).run P w = .ok v' w' ∧
      w'.ownsRow base e size v' (n + m) (xs ++ news) ∧ w.grownBy w' v.ownBlock ∧ ∃ ad' c', v' = .slice ad' (n + m) c' := by
  rcases Nat.eq_zero_or_pos m with rfl | hm
  · have hn0 : news = [] := List.length_eq_zero_iff.1 (by rw [hl, Nat.zero_mul])
    subst hn0
    have hsrc : Src P i.size t (.slice ad 0 c) 0 [] w := by
      cases ad with
      | none => exact Src.ofNil w ht c
      | some a => exact Src.ofSlice w ht a 0 c [] (by simp) (fun j u h => by simp at h) (fun u h => by simp at h)
    refine ⟨v, w, ?_, by simpa using hown, ⟨rfl, rfl, rfl, Nat.le_refl _, fun _ _ _ => rfl⟩, ?_⟩
    · rcases hown.2 with ⟨rfl, _⟩ | ⟨g, cap, cur, rfl, _, _, hle, _⟩
      · exact run_append_nothing w t t ty e i ht hi none 0 0 (Nat.le_refl _) _ hsrc
      · exact run_append_nothing w t t ty e i ht hi _ n cap hle _ hsrc
    · rcases hown.2 with ⟨rfl, rfl⟩ | ⟨g, cap, cur, rfl, _, _, hle, _⟩
      · exact ⟨_, _, rfl⟩
      · exact ⟨_, _, rfl⟩
  · have hne : 0 < news.length := by rw [hl]; exact Nat.mul_pos hm hsz
    obtain ⟨a', rfl, _⟩ := hnews 0 _ (List.getElem?_eq_getElem hne)
    obtain ⟨g, cap, w', h2, h3, h4, _, _⟩ := run_append_lies (P := P) w t ty base e i z size bytes ht hi hz hsize hby hzs hsz v n xs hown a' m c news hl (fun j u hu => by obtain ⟨b, hb, hc⟩ := hnews j u hu; cases hb; exact hc) h1 hm h63 hbytes hbase _ rfl
    exact ⟨_, w', h2, h3, h4, _, _, rfl⟩

theorem wpList_append_src {ops : Array Oper} {rest : List Oper} {o : Oper} {a : Act} {Q : Exit → Act → World → Prop} (hgd : o.guard = none) (s x : Operand) (t : TypeId)
    (ho : o.op = .call { callee := .builtin .append, args := #[s, x], argTypes := #[t, t] })
    (base : Nat) (e : TypeId) (i : TypeInfo) (z : Value) (size bytes : Nat) (ht : P.underlying t = some (.slice e)) (hi : P.info? e = some i) (hz : i.zero = some z)
    (hsize : i.size = size) (hby : i.bytes = bytes) (hzs : z.cells.size = size) (hsz : 0 < size)
    (v : Value) (n : Nat) (xs : List Value) (hs : a.eval s = v) (hown : w.ownsRow base e size v n xs)
    (ad : Option Addr) (m c : Nat) (news : List Value) (hx : a.eval x = .slice ad m c) (hl : news.length = m * size) (hnews : ∀ j u, news[j]? = some u → ∃ a', ad = some a' ∧ w.cell? (a'.add j) = some u) (h1 : ∀ u ∈ news, u.oneCell' = true)
    (h63 : n + m ≤ maxLen) (hbytes : (n + m) * bytes ≤ 140737488355328) (hbase : base ≤ w.heap.size) (N : Nat) (hN : n + m = N)
    (h : ∀ ad' c' w', w'.ownsRow base e size (.slice ad' N c') N (xs ++ news) → w.grownBy w' v.ownBlock → wpList P ops Q rest (a.put o.dst (.slice ad' N c')) w') : wpList P ops Q (o :: rest) a w := by
  subst hN
  refine wpList_plain hgd fun K hK => ?_
  obtain ⟨v', w', hr, h2, h3, ad', c', rfl⟩ := run_append_src (P := P) w t o.type base e i z size bytes ht hi hz hsize hby hzs hsz v n xs hown ad m c news hl hnews h1 h63 hbytes hbase
  unfold Oper.wp execOp
  simp only [ho, resolve, invoke, builtin, Sem.run_bind, Sem.run_pure, Result.andThen_ok, List.map_toArray, List.map_cons, List.map_nil, hs, hx, hr]
  exact hK _ _ (h ad' c' w' h2 h3)
end

/-- A prime, its coefficient as it lies, and what that is over the common denominator. -/
structure Ent where
  p : Nat
  x : Value
  y : Value
  q : Value
  z : Int
def Ent.val (e : Ent) : Value := .agg #[e.x, e.y, e.q]
def flat3 : List Ent → List Value
  | [] => []
  | e :: r => e.x :: e.y :: e.q :: flat3 r
def primes (L : List Ent) : List Nat := L.map fun e => e.p
def absL (L : List Ent) : List (Int × Int) := L.map fun e => ((e.p : Int), e.z)
theorem flat3_length : ∀ L : List Ent, (flat3 L).length = L.length * 3
  | [] => rfl
  | e :: r => by
    show (flat3 r).length + 1 + 1 + 1 = (r.length + 1) * 3
    rw [flat3_length r]; omega
theorem flat3_append : ∀ A B : List Ent, flat3 (A ++ B) = flat3 A ++ flat3 B
  | [], B => rfl
  | e :: A, B => by
    show e.x :: e.y :: e.q :: flat3 (A ++ B) = e.x :: e.y :: e.q :: (flat3 A ++ flat3 B)
    rw [flat3_append A B]
theorem flat3_at : ∀ (L : List Ent) (i : Nat) (e : Ent), L[i]? = some e → (flat3 L)[i * 3]? = some e.x ∧ (flat3 L)[i * 3 + 1]? = some e.y ∧ (flat3 L)[i * 3 + 2]? = some e.q
  | [], i, e, h => by simp at h
  | f :: r, 0, e, h => by
    simp at h
    subst h
    exact ⟨rfl, rfl, rfl⟩
  | f :: r, i + 1, e, h => by
    have h' := flat3_at r i e (by simpa using h)
    have e1 : (i + 1) * 3 = i * 3 + 1 + 1 + 1 := by omega
    rw [e1]
    exact h'
theorem flat3_mem : ∀ (L : List Ent) (u : Value), u ∈ flat3 L → ∃ e ∈ L, u = e.x ∨ u = e.y ∨ u = e.q
  | [], u, h => by simp [flat3] at h
  | f :: r, u, h => by
    simp only [flat3, List.mem_cons] at h
    rcases h with h | h | h | h
    · exact ⟨f, List.mem_cons_self .., Or.inl h⟩
    · exact ⟨f, List.mem_cons_self .., Or.inr (Or.inl h)⟩
    · exact ⟨f, List.mem_cons_self .., Or.inr (Or.inr h)⟩
    · obtain ⟨e, he, h'⟩ := flat3_mem r u h
      exact ⟨e, List.mem_cons_of_mem _ he, h'⟩
theorem flat3_set : ∀ (L : List Ent) (k : Nat) (e : Ent), k < L.length → (((flat3 L).set (k * 3) e.x).set (k * 3 + 1) e.y).set (k * 3 + 2) e.q = flat3 (L.set k e)
  | [], k, e, h => by simp at h
  | f :: r, 0, e, _ => rfl
  | f :: r, k + 1, e, h => by
    have ih := flat3_set r k e (by simpa using h)
    have e1 : (k + 1) * 3 = k * 3 + 1 + 1 + 1 := by omega
    rw [e1]
    show f.x :: f.y :: f.q :: ((((flat3 r).set (k * 3) e.x).set (k * 3 + 1) e.y).set (k * 3 + 2) e.q) = f.x :: f.y :: f.q :: flat3 (r.set k e)
    rw [ih]
theorem flat3_take (L : List Ent) (k : Nat) : flat3 L = flat3 (L.take k) ++ flat3 (L.drop k) := by rw [← flat3_append, List.take_append_drop]

/-- Whole numbers that lie somewhere stay. -/
def IntsKept (w w' : World) : Prop := ∀ a x, w.cell? a = some (.int .i64 x) → w'.cell? a = some (.int .i64 x)
theorem IntsKept.refl (w : World) : IntsKept w w := fun _ _ h => h
theorem IntsKept.trans {w w' w'' : World} (h : IntsKept w w') (h' : IntsKept w' w'') : IntsKept w w'' := fun a x e => h' a x (h a x e)
theorem IntsKept.of_below {w w' : World} (h : Below w.heap.size w w') : IntsKept w w' := fun a x e => by rw [h.cell (cell_lt e)]; exact e
theorem IntsKept.set {w : World} {a : Addr} {v y : Value} (hv : w.cell? a = some v) (hn : ∀ x, v ≠ .int .i64 x) : IntsKept w (w.setCell a y) := fun b x e => by
  by_cases h : b = a
  · subst h; rw [hv] at e; exact absurd (Option.some.inj e) (hn x)
  · rw [World.cell?_setCell_other _ _ _ _ (Ne.symm h)]; exact e
theorem IntsAt.kept {w w' : World} {v : Value} {l : List Nat} (h : IntsAt w v l) (hk : IntsKept w w') : IntsAt w' v l := by
  rcases h with h | ⟨b, o, cap, h1, h2, h3, h4⟩
  · exact Or.inl h
  · exact Or.inr ⟨b, o, cap, h1, h2, h3, fun i hi => hk _ _ (h4 i hi)⟩
theorem BigAt.kept {w w' : World} {v : Value} {n : Nat} (h : BigAt w v n) (hk : IntsKept w w') : BigAt w' v n := by
  obtain ⟨l, h1, h2, h3, h4⟩ := h
  exact ⟨l, h1, h2, h3, h4.kept hk⟩
theorem RatioAt.kept {w w' : World} {v : Value} {n : Int} {d : Nat} (h : RatioAt w v n d) (hk : IntsKept w w') : RatioAt w' v n d := by
  obtain ⟨u, q, h1, h2, h3⟩ := h
  exact ⟨u, q, h1, h2.kept hk, h3.kept hk⟩

/-- The pointer's own block, and that of its coefficients. -/
def Mine (B : Nat) (w : World) (k : Nat) : Prop := k = B ∨ ∃ n cap, w.cell? ⟨B, 1, none⟩ = some (.slice (some ⟨k, 0, none⟩) n cap)
/-- No other block has changed. -/
structure Moved (B : Nat) (w w' : World) : Prop where
  size : w.heap.size ≤ w'.heap.size
  block : ∀ k, k < w.heap.size → ¬ Mine B w k → w'.heap[k]? = w.heap[k]? ∧ ¬ Mine B w' k
theorem Moved.refl (B : Nat) (w : World) : Moved B w w := ⟨Nat.le_refl _, fun _ _ h => ⟨rfl, h⟩⟩
theorem Moved.trans {B : Nat} {w w' w'' : World} (h : Moved B w w') (h' : Moved B w' w'') : Moved B w w'' :=
  ⟨Nat.le_trans h.size h'.size, fun k hk hm => by
    obtain ⟨h1, h2⟩ := h.block k hk hm
    obtain ⟨h3, h4⟩ := h'.block k (Nat.lt_of_lt_of_le hk h.size) h2
    exact ⟨h3.trans h1, h4⟩⟩
theorem Moved.of_below {B : Nat} {w w' : World} (h : Below w.heap.size w w') (hB : B < w.heap.size) : Moved B w w' :=
  ⟨h.size, fun k hk hm => ⟨h.block k hk, fun h' => hm (by
    rcases h' with h' | ⟨n, cap, h'⟩
    · exact Or.inl h'
    · exact Or.inr ⟨n, cap, by rw [← h']; exact (h.cell (p := ⟨B, 1, none⟩) hB).symm⟩)⟩⟩
theorem Moved.cell {B : Nat} {w w' : World} (h : Moved B w w') {a : Addr} (ha : a.block < w.heap.size) (hm : ¬ Mine B w a.block) : w'.cell? a = w.cell? a := World.cell?_of_block (h.block _ ha hm).1

theorem ownsRow_past {w w' : World} {base e size n : Nat} {v : Value} {xs : List Value} (h : w.ownsRow base e size v n xs) (hb : Below w.heap.size w w') : w'.ownsRow base e size v n xs :=
  h.kept (row := none) ⟨hb.os, hb.tape, hb.output, hb.size, fun k hk _ => hb.block k hk⟩ (by cases hv : v.ownBlock <;> simp)
structure WideAt (base M : Nat) (W : World) (B : Nat) (vp vc : Value) (L : List Ent) : Prop where
  hB : base ≤ B
  cp : W.cell? ⟨B, 0, none⟩ = some vp
  cc : W.cell? ⟨B, 1, none⟩ = some vc
  f0 : W.frozen? ⟨B, 0, none⟩ = false
  f1 : W.frozen? ⟨B, 1, none⟩ = false
  P : W.ownsRow base 3 1 vp L.length (digCells (primes L))
  C : W.ownsRow base 54 3 vc L.length (flat3 L)
  R : ∀ e ∈ L, RatioAt W e.val (lowN M e.z) (lowD M e.z)
  nil : L = [] → vp = .slice none 0 0 ∧ vc = .slice none 0 0
theorem WideAt.lt {base M : Nat} {W : World} {B : Nat} {vp vc : Value} {L : List Ent} (h : WideAt base M W B vp vc L) : B < W.heap.size := cell_lt h.cp
theorem WideAt.later {base M : Nat} {W W' : World} {B : Nat} {vp vc : Value} {L : List Ent} (h : WideAt base M W B vp vc L) (hb : Below W.heap.size W W') : WideAt base M W' B vp vc L :=
  ⟨h.hB, (cell_past h.cp hb).2, (cell_past h.cc hb).2, (frozen_past h.cp h.f0 hb).2, (frozen_past h.cc h.f1 hb).2, ownsRow_past h.P hb, ownsRow_past h.C hb, fun e he => (h.R e he).later hb, h.nil⟩
/-- A fraction's three values. -/
theorem RatioAt.parts {w : World} {v : Value} {n : Int} {d : Nat} (h : RatioAt w v n d) : ∃ s ad l cap ad' l' cap', v = .agg #[.bool s, .slice ad l cap, .slice ad' l' cap'] := by
  obtain ⟨u, q, rfl, h1, h2⟩ := h
  obtain ⟨ad, l, cap, rfl, _⟩ := h1.len
  obtain ⟨ad', l', cap', rfl, _⟩ := h2.len
  exact ⟨_, _, _, _, _, _, _, rfl⟩
theorem Ent.parts {w : World} {e : Ent} {n : Int} {d : Nat} (h : RatioAt w e.val n d) : ∃ s ad l cap ad' l' cap', e.x = .bool s ∧ e.y = .slice ad l cap ∧ e.q = .slice ad' l' cap' := by
  obtain ⟨s, ad, l, cap, ad', l', cap', h⟩ := h.parts
  unfold Ent.val at h
  simp at h
  exact ⟨s, ad, l, cap, ad', l', cap', h⟩
theorem WideAt.no_ints {base M : Nat} {W : World} {B : Nat} {vp vc : Value} {L : List Ent} (h : WideAt base M W B vp vc L) : ∀ u ∈ flat3 L, (∀ x, u ≠ .int .i64 x) ∧ u.oneCell' = true := fun u hu => by
  obtain ⟨e, he, hu⟩ := flat3_mem L u hu
  obtain ⟨s, ad, l, cap, ad', l', cap', h1, h2, h3⟩ := Ent.parts (h.R e he)
  rcases hu with rfl | rfl | rfl
  · rw [h1]; exact ⟨(fun x e => by cases e), rfl⟩
  · rw [h2]; exact ⟨(fun x e => by cases e), rfl⟩
  · rw [h3]; exact ⟨(fun x e => by cases e), rfl⟩
theorem grownBy_set (w : World) (a : Addr) (u : Value) : w.grownBy (w.setCell a u) (some a.block) := ⟨rfl, rfl, rfl, by simp, fun k _ hk => heap_setCell_other w a k u (fun e => hk (by simp [e]))⟩
theorem src_left {W : World} {base e size g n cap : Nat} {A B : List Value} (h : W.ownsRow base e size (.slice (some ⟨g, 0, none⟩) n cap) n (A ++ B)) : ∀ j u, A[j]? = some u → ∃ a', some (⟨g, 0, none⟩ : Addr) = some a' ∧ W.cell? (a'.add j) = some u := fun j u hu => by
  have hlt : j < A.length := (List.getElem?_eq_some_iff.1 hu).1
  have hl := h.1
  rw [List.length_append] at hl
  refine ⟨_, rfl, ?_⟩
  rw [add_plain, Nat.zero_add, h.cellAt j (by omega), List.getElem?_append_left hlt]
  exact hu
theorem src_right {W : World} {base e size g n cap : Nat} {A B : List Value} (h : W.ownsRow base e size (.slice (some ⟨g, 0, none⟩) n cap) n (A ++ B)) {o : Nat} (ho : A.length = o) : ∀ j u, B[j]? = some u → ∃ a', some (⟨g, o, none⟩ : Addr) = some a' ∧ W.cell? (a'.add j) = some u := fun j u hu => by
  have hlt : j < B.length := (List.getElem?_eq_some_iff.1 hu).1
  have hl := h.1
  rw [List.length_append] at hl
  refine ⟨_, rfl, ?_⟩
  rw [add_plain, h.cellAt (o + j) (by omega), List.getElem?_append_right (by omega), ← ho, Nat.add_sub_cancel_left]
  exact hu
theorem src_right_if {W : World} {base e size g n cap m : Nat} {A B : List Value} (h : W.ownsRow base e size (.slice (some ⟨g, 0, none⟩) n cap) n (A ++ B)) {o : Nat} (ho : A.length = o) (hm : cap = m → B = []) : ∀ j u, B[j]? = some u → ∃ a', (if cap = m then some (⟨g, 0, none⟩ : Addr) else some ⟨g, o, none⟩) = some a' ∧ W.cell? (a'.add j) = some u := fun j u hu => by
  by_cases hc : cap = m
  · rw [hm hc] at hu; simp at hu
  · rw [if_neg hc]; exact src_right h ho j u hu
theorem three_new_past {w W : World} {x y z : Value} {t : TypeId} (hb : Below (w.alloc (.cells #[x, y, z] t)).heap.size (w.alloc (.cells #[x, y, z] t)) W) : W.cell? ⟨w.heap.size, 0, none⟩ = some x ∧ W.cell? ⟨w.heap.size, 1, none⟩ = some y ∧ W.cell? ⟨w.heap.size, 2, none⟩ = some z := by
  refine ⟨(cell_past ?_ hb).2, (cell_past ?_ hb).2, (cell_past ?_ hb).2⟩
  · rw [World.cell?_alloc_at _ _ _ _ rfl]; rfl
  · rw [World.cell?_alloc_at _ _ _ _ rfl]; rfl
  · rw [World.cell?_alloc_at _ _ _ _ rfl]; rfl
theorem src_new (w : World) (cs : Array Value) (t : TypeId) : ∀ j u, cs.toList[j]? = some u → ∃ a', some (⟨w.heap.size, 0, none⟩ : Addr) = some a' ∧ (w.alloc (.cells cs t)).cell? (a'.add j) = some u := fun j u hu => by
  refine ⟨_, rfl, ?_⟩
  rw [add_plain, Nat.zero_add, World.cell?_alloc_at _ _ _ _ rfl]
  simpa using hu
theorem dig_cut (l : List Nat) (k : Nat) : digCells l = digCells (l.take k) ++ digCells (l.drop k) := by
  unfold digCells
  rw [← List.map_append, List.take_append_drop]
theorem primes_join (A B : List Ent) : primes (A ++ B) = primes A ++ primes B := by unfold primes; rw [List.map_append]
theorem absL_join (A B : List Ent) : absL (A ++ B) = absL A ++ absL B := by unfold absL; rw [List.map_append]
theorem cell_set0 {W : World} {B : Nat} {v vc u : Value} (hp : W.cell? ⟨B, 0, none⟩ = some v) (hc : W.cell? ⟨B, 1, none⟩ = some vc) : (W.setCell ⟨B, 0, none⟩ u).cell? ⟨B, 0, none⟩ = some u ∧ (W.setCell ⟨B, 0, none⟩ u).cell? ⟨B, 1, none⟩ = some vc := ⟨World.cell?_setCell_same _ _ _ hp, by rw [World.cell?_setCell_other _ _ _ _ (by simp)]; exact hc⟩

/-- A prime more, laid between the others. -/
theorem wide_insert {base M B k n c3 c6 : Nat} {W1 w4 W2 w7 : World} {vp vc : Value} {L : List Ent} {e : Ent} {ad3 ad6 : Option Addr} (h : WideAt base M W1 B vp vc L) (hb4 : Below W1.heap.size W1 w4)
    (hP : w4.ownsRow W1.heap.size 3 1 (.slice ad3 n c3) n (digCells (primes (L.take k)) ++ [.int .i64 (e.p : Int)] ++ digCells (primes (L.drop k)))) (hW2 : W2 = w4.setCell ⟨B, 0, none⟩ (.slice ad3 n c3)) (hb7 : Below W2.heap.size W2 w7)
    (hC : w7.ownsRow W2.heap.size 54 3 (.slice ad6 n c6) n (flat3 (L.take k) ++ [e.x, e.y, e.q] ++ flat3 (L.drop k))) (hR : RatioAt W1 e.val (lowN M e.z) (lowD M e.z)) :
    WideAt base M (w7.setCell ⟨B, 1, none⟩ (.slice ad6 n c6)) B (.slice ad3 n c3) (.slice ad6 n c6) (L.take k ++ e :: L.drop k) ∧ IntsKept W1 (w7.setCell ⟨B, 1, none⟩ (.slice ad6 n c6)) ∧ Moved B W1 (w7.setCell ⟨B, 1, none⟩ (.slice ad6 n c6)) ∧ Below base W1 (w7.setCell ⟨B, 1, none⟩ (.slice ad6 n c6)) := by
  have h4 := h.later hb4
  have hB1 := h.lt
  obtain ⟨q0, q1⟩ := cell_set0 (u := .slice ad3 n c3) h4.cp h4.cc
  rw [← hW2] at q0 q1
  have hf0 : W2.frozen? ⟨B, 0, none⟩ = false := by rw [hW2, World.frozen?_setCell]; exact h4.f0
  have hf1 : W2.frozen? ⟨B, 1, none⟩ = false := by rw [hW2, World.frozen?_setCell]; exact h4.f1
  have hsz2 : W2.heap.size = w4.heap.size := by rw [hW2]; simp
  have hs4 := hb4.size
  have hs7 := hb7.size
  have hBb := h.hB
  have hn : n = L.length + 1 := by
    have h1 := hC.1
    have h2 := flat3_length L
    rw [flat3_take L k, List.length_append] at h2
    simp only [List.length_append, List.length_cons, List.length_nil] at h1
    omega
  obtain ⟨g3, cap3, e3, hg3, _⟩ := hP.form (by omega)
  obtain ⟨g6, cap6, e6, hg6, hg6'⟩ := hC.form (by omega)
  have hK4 : IntsKept W1 w4 := IntsKept.of_below hb4
  obtain ⟨vps, hvps⟩ : ∃ a c, vp = .slice a L.length c := by
    rcases h.P.2 with ⟨rfl, h0⟩ | ⟨g, cap, cur, rfl, _⟩
    · exact ⟨none, 0, by rw [h0]⟩
    · exact ⟨_, _, rfl⟩
  obtain ⟨vpc, rfl⟩ := hvps
  obtain ⟨vcs, hvcs⟩ : ∃ a c, vc = .slice a L.length c := by
    rcases h.C.2 with ⟨rfl, h0⟩ | ⟨g, cap, cur, rfl, _⟩
    · exact ⟨none, 0, by rw [h0]⟩
    · exact ⟨_, _, rfl⟩
  obtain ⟨vcc, rfl⟩ := hvcs
  have hK2 : IntsKept W1 W2 := hK4.trans (by rw [hW2]; exact IntsKept.set h4.cp (fun x e => by cases e))
  have hK7 : IntsKept W1 w7 := hK2.trans (IntsKept.of_below hb7)
  have r1 := (cell_past q1 hb7).2
  have r0 := (cell_past q0 hb7).2
  have hK8 : IntsKept W1 (w7.setCell ⟨B, 1, none⟩ (.slice ad6 n c6)) := hK7.trans (IntsKept.set r1 (fun x e => by cases e))
  have hlen : (L.take k ++ e :: L.drop k).length = n := by
    have : (L.take k).length + (L.drop k).length = L.length := by rw [← List.length_append, List.take_append_drop]
    simp only [List.length_append, List.length_cons]
    omega
  have hP7 : w7.ownsRow W1.heap.size 3 1 (.slice ad3 n c3) n (digCells (primes (L.take k)) ++ [.int .i64 (e.p : Int)] ++ digCells (primes (L.drop k))) := by
    refine ownsRow_past ?_ hb7
    rw [hW2]
    refine hP.kept (grownBy_set _ _ _) (Or.inr ?_)
    rw [e3]
    simp [Value.ownBlock]
    omega
  refine ⟨⟨hBb, ?_, ?_, ?_, ?_, ?_, ?_, ?_, ?_⟩, hK8, ⟨?_, ?_⟩, ?_⟩
  · rw [World.cell?_setCell_other _ _ _ _ (by simp)]; exact r0
  · exact World.cell?_setCell_same _ _ _ r1
  · rw [World.frozen?_setCell]; exact (frozen_past q0 hf0 hb7).2
  · rw [World.frozen?_setCell]; exact (frozen_past q1 hf1 hb7).2
  · rw [hlen]
    have h1 := hP7.mono (show base ≤ W1.heap.size by omega)
    have h2 := h1.kept (grownBy_set w7 ⟨B, 1, none⟩ (.slice ad6 n c6)) (Or.inr (by rw [e3]; simp [Value.ownBlock]; omega))
    rw [primes_join]
    simpa [digCells, primes] using h2
  · rw [hlen]
    have h1 := hC.mono (show base ≤ W2.heap.size by omega)
    have h2 := h1.kept (grownBy_set w7 ⟨B, 1, none⟩ (.slice ad6 n c6)) (Or.inr (by rw [e6]; simp [Value.ownBlock]; omega))
    rw [flat3_append]
    simpa [flat3] using h2
  · intro f hf
    have : f = e ∨ f ∈ L := by
      rcases List.mem_append.1 hf with h1 | h1
      · exact Or.inr (List.mem_of_mem_take h1)
      · rcases List.mem_cons.1 h1 with h1 | h1
        · exact Or.inl h1
        · exact Or.inr (List.mem_of_mem_drop h1)
    rcases this with rfl | hf
    · exact hR.kept hK8
    · exact (h.R f hf).kept hK8
  · intro h0
    have := congrArg List.length h0
    rw [hlen] at this
    simp at this
    omega
  · simp; omega
  · intro j hj hm
    have hjB : j ≠ B := fun e => hm (Or.inl e)
    refine ⟨?_, fun h' => ?_⟩
    · rw [heap_setCell_other w7 ⟨B, 1, none⟩ j _ hjB, hb7.block j (by omega), hW2, heap_setCell_other w4 ⟨B, 0, none⟩ j _ hjB, hb4.block j hj]
    · rcases h' with h' | ⟨n', cap', h'⟩
      · exact hjB h'
      · rw [World.cell?_setCell_same _ _ _ r1, e6] at h'
        have h8 : g6 = j := by injection h' with h'; injection h' with h'; injection h' with h'; injection h'
        omega
  · have b1 : Below base W1 w4 := hb4.mono (by omega)
    have b2 : Below base W1 W2 := by rw [hW2]; exact b1.setCell hBb _
    exact (b2.trans (hb7.mono (by omega))).setCell hBb _
/-- The place among the primes. -/
theorem primes_at {L : List Ent} {i : Nat} (h : i < L.length) : (primes L).getD i 0 = (L[i]).p := by simp [primes, List.getD, h]
theorem take_less {L : List Ent} {k p : Nat} (h : ∀ i, i < k → (primes L).getD i 0 < p) : ∀ e ∈ absL (L.take k), e.1 < (p : Int) := fun e he => by
  unfold absL at he
  obtain ⟨f, hf, rfl⟩ := List.mem_map.1 he
  obtain ⟨i, hi, rfl⟩ := List.getElem_of_mem hf
  have hi' := hi
  rw [List.length_take] at hi'
  have := h i (by omega)
  rw [primes_at (by omega)] at this
  rw [List.getElem_take]
  simp only
  omega
theorem rising_drop {L : List Ent} (hr : Rising (absL L)) {k p : Nat} (hk : k < L.length) (h : p < (L[k]).p) : ∀ e ∈ absL (L.drop k), (p : Int) < e.1 := fun e he => by
  have e1 : L.drop k = L[k] :: L.drop (k + 1) := List.drop_eq_getElem_cons hk
  have h1 : Rising (absL (L.drop k)) := by
    have : absL (L.drop k) = (absL L).drop k := by unfold absL; rw [List.map_drop]
    rw [this]
    exact hr.sublist (List.drop_sublist _ _)
  rw [e1] at he h1
  have h2 := List.pairwise_cons.1 (show List.Pairwise (fun a b : Int × Int => a.1 < b.1) (((L[k]).p, (L[k]).z) :: absL (L.drop (k + 1))) from h1)
  rcases List.mem_cons.1 (show e ∈ (((L[k]).p : Int), (L[k]).z) :: absL (L.drop (k + 1)) from he) with rfl | h3
  · simp only; omega
  · have := h2.1 e h3
    simp only at this
    omega
theorem put_between {L : List Ent} {k p : Nat} {x y q : Value} {z : Int} (hr : Rising (absL L)) (hlt : ∀ i, i < k → (primes L).getD i 0 < p) (hge : k < L.length → p ≤ (primes L).getD k 0) (hne : false = true ↔ (k < L.length ∧ (primes L).getD k 0 = p)) : Put (absL L) (absL (L.take k ++ ⟨p, x, y, q, z⟩ :: L.drop k)) p z := by
  have e1 : absL L = absL (L.take k) ++ absL (L.drop k) := by rw [← absL_join, List.take_append_drop]
  rw [absL_join]
  rw [e1] at hr ⊢
  refine put_new hr (take_less hlt) ?_
  rcases Nat.lt_or_ge k L.length with hk | hk
  · have h1 := hge hk
    have h2 : (primes L).getD k 0 ≠ p := fun h => by have := hne.2 ⟨hk, h⟩; cases this
    rw [primes_at hk] at h1 h2
    have h3 : p < (L[k]).p := by omega
    exact rising_drop (by rw [e1]; exact hr) hk h3
  · rw [List.drop_eq_nil_of_le hk]
    intro e he
    simp [absL] at he
theorem WideAt.apart {base M : Nat} {W : World} {B gp gc capp capc : Nat} {L : List Ent} (h : WideAt base M W B (.slice (some ⟨gp, 0, none⟩) L.length capp) (.slice (some ⟨gc, 0, none⟩) L.length capc) L) (hL : 0 < L.length) : gc ≠ B ∧ gp ≠ gc := by
  obtain ⟨e0, he0⟩ : ∃ e0, L[0]? = some e0 := ⟨_, List.getElem?_eq_getElem hL⟩
  have h7 := (flat3_at L 0 e0 he0).1
  obtain ⟨s', _, _, _, _, _, _, h8, _⟩ := Ent.parts (h.R e0 (List.mem_of_getElem? he0))
  rw [Nat.zero_mul] at h7
  have h5 := h.C.cellAt 0 (by omega)
  rw [h7, h8] at h5
  refine ⟨fun e => ?_, fun e => ?_⟩
  · have h6 := h.cp
    rw [e] at h5
    rw [h6] at h5
    cases h5
  · have h6 := h.P.cellAt 0 (by omega)
    rw [e, h5, digCells_get (by unfold primes; simpa using hL)] at h6
    cases h6
/-- A prime's coefficient, laid anew. -/
theorem wide_store {base M B k gp gc capp capc : Nat} {W1 w5 : World} {L : List Ent} {e : Ent} (h : WideAt base M W1 B (.slice (some ⟨gp, 0, none⟩) L.length capp) (.slice (some ⟨gc, 0, none⟩) L.length capc) L) (hk : k < L.length) (hb5 : Below W1.heap.size W1 w5) (hp : e.p = (L[k]).p) (hR : RatioAt w5 e.val (lowN M e.z) (lowD M e.z)) :
    WideAt base M (((w5.setCell ⟨gc, k * 3, none⟩ e.x).setCell ⟨gc, k * 3 + 1, none⟩ e.y).setCell ⟨gc, k * 3 + 2, none⟩ e.q) B (.slice (some ⟨gp, 0, none⟩) L.length capp) (.slice (some ⟨gc, 0, none⟩) L.length capc) (L.set k e) ∧ IntsKept W1 (((w5.setCell ⟨gc, k * 3, none⟩ e.x).setCell ⟨gc, k * 3 + 1, none⟩ e.y).setCell ⟨gc, k * 3 + 2, none⟩ e.q) ∧ Moved B W1 (((w5.setCell ⟨gc, k * 3, none⟩ e.x).setCell ⟨gc, k * 3 + 1, none⟩ e.y).setCell ⟨gc, k * 3 + 2, none⟩ e.q) ∧ Below base W1 (((w5.setCell ⟨gc, k * 3, none⟩ e.x).setCell ⟨gc, k * 3 + 1, none⟩ e.y).setCell ⟨gc, k * 3 + 2, none⟩ e.q) := by
  have h5 := h.later hb5
  have hL : 0 < L.length := by omega
  obtain ⟨hgB, hgp⟩ := h5.apart hL
  have hBb := h.hB
  obtain ⟨t1, g1⟩ := h5.C.stored (k * 3) e.x
  obtain ⟨t2, g2⟩ := t1.stored (k * 3 + 1) e.y
  obtain ⟨t3, g3⟩ := t2.stored (k * 3 + 2) e.q
  rw [flat3_set L k e hk] at t3
  obtain ⟨f, hf⟩ : ∃ f, L[k]? = some f := ⟨_, List.getElem?_eq_getElem hk⟩
  obtain ⟨x0, x1, x2⟩ := flat3_at L k f hf
  have hfl := flat3_length L
  have y0 := h5.C.cellAt (k * 3) (by omega)
  have y1 := h5.C.cellAt (k * 3 + 1) (by omega)
  have y2 := h5.C.cellAt (k * 3 + 2) (by omega)
  rw [x0] at y0
  rw [x1] at y1
  rw [x2] at y2
  obtain ⟨_, _, _, _, _, _, _, z0, z1, z2⟩ := Ent.parts (h5.R f (List.mem_of_getElem? hf))
  have k5 : IntsKept W1 w5 := IntsKept.of_below hb5
  have k6 := k5.trans (IntsKept.set (y := e.x) y0 (fun x e => by rw [z0] at e; cases e))
  have y1' : (w5.setCell ⟨gc, k * 3, none⟩ e.x).cell? ⟨gc, k * 3 + 1, none⟩ = some f.y := by rw [World.cell?_setCell_other _ _ _ _ (by simp)]; exact y1
  have k7 := k6.trans (IntsKept.set (y := e.y) y1' (fun x e => by rw [z1] at e; cases e))
  have y2' : ((w5.setCell ⟨gc, k * 3, none⟩ e.x).setCell ⟨gc, k * 3 + 1, none⟩ e.y).cell? ⟨gc, k * 3 + 2, none⟩ = some f.q := by rw [World.cell?_setCell_other _ _ _ _ (by simp), World.cell?_setCell_other _ _ _ _ (by simp)]; exact y2
  have k8 := k7.trans (IntsKept.set (y := e.q) y2' (fun x e => by rw [z2] at e; cases e))
  have kR : IntsKept w5 (((w5.setCell ⟨gc, k * 3, none⟩ e.x).setCell ⟨gc, k * 3 + 1, none⟩ e.y).setCell ⟨gc, k * 3 + 2, none⟩ e.q) := ((IntsKept.set (y := e.x) y0 (fun x e => by rw [z0] at e; cases e)).trans (IntsKept.set (y := e.y) y1' (fun x e => by rw [z1] at e; cases e))).trans (IntsKept.set (y := e.q) y2' (fun x e => by rw [z2] at e; cases e))
  have hcell : ∀ (b j : Nat), b ≠ gc → (((w5.setCell ⟨gc, k * 3, none⟩ e.x).setCell ⟨gc, k * 3 + 1, none⟩ e.y).setCell ⟨gc, k * 3 + 2, none⟩ e.q).cell? ⟨b, j, none⟩ = w5.cell? ⟨b, j, none⟩ := fun b j hb => by
    rw [World.cell?_setCell_far _ _ _ _ (Ne.symm hb), World.cell?_setCell_far _ _ _ _ (Ne.symm hb), World.cell?_setCell_far _ _ _ _ (Ne.symm hb)]
  have hgb : base ≤ gc := by
    rcases h5.C.2 with ⟨h, _⟩ | ⟨g, cap, cur, h, hb, _⟩
    · cases h
    · have : gc = g := by injection h with h; injection h with h; injection h
      omega
  have hpr : primes (L.set k e) = primes L := by
    unfold primes
    refine List.ext_getElem (by simp) fun i h1 h2 => ?_
    simp only [List.getElem_map, List.getElem_set]
    split
    · rename_i he; subst he; exact hp
    · rfl
  refine ⟨⟨hBb, ?_, ?_, ?_, ?_, ?_, ?_, ?_, ?_⟩, k8, ⟨?_, ?_⟩, ?_⟩
  · rw [hcell _ _ (Ne.symm hgB)]; exact h5.cp
  · rw [hcell _ _ (Ne.symm hgB)]; exact h5.cc
  · rw [World.frozen?_setCell, World.frozen?_setCell, World.frozen?_setCell]; exact h5.f0
  · rw [World.frozen?_setCell, World.frozen?_setCell, World.frozen?_setCell]; exact h5.f1
  · rw [hpr, List.length_set]
    have hne : ∀ v : Value, v = .slice (some ⟨gp, 0, none⟩) L.length capp → v.ownBlock = none ∨ v.ownBlock ≠ some gc := fun v hv => by rw [hv]; exact Or.inr (by simp [Value.ownBlock]; exact hgp)
    exact ((h5.P.kept g1 (hne _ rfl)).kept g2 (hne _ rfl)).kept g3 (hne _ rfl)
  · rw [List.length_set]; exact t3
  · intro a ha
    rcases List.mem_or_eq_of_mem_set ha with ha | rfl
    · exact (h.R a ha).kept k8
    · exact hR.kept kR
  · intro h0
    have := congrArg List.length h0
    rw [List.length_set, List.length_nil] at this
    omega
  · have := hb5.size
    simp; omega
  · intro j hj hm
    have hjg : j ≠ gc := fun e => hm (Or.inr ⟨_, _, by rw [e]; exact h.cc⟩)
    refine ⟨?_, fun h' => hm ?_⟩
    · rw [heap_setCell_other _ ⟨gc, _, none⟩ j _ hjg, heap_setCell_other _ ⟨gc, _, none⟩ j _ hjg, heap_setCell_other _ ⟨gc, _, none⟩ j _ hjg, hb5.block j hj]
    · rcases h' with h' | ⟨n', cap', h'⟩
      · exact Or.inl h'
      · rw [hcell _ _ (Ne.symm hgB), h5.cc, ← h.cc] at h'
        exact Or.inr ⟨_, _, h'⟩
  · exact (((hb5.mono (by have := h.lt; omega)).setCell hgb _).setCell hgb _).setCell hgb _
theorem put_at {L : List Ent} {k p : Nat} {x y q : Value} {z : Int} (hr : Rising (absL L)) (hk : k < L.length) (hp : (primes L).getD k 0 = p) : Put (absL L) (absL (L.set k ⟨p, x, y, q, (L[k]).z + z⟩)) p z := by
  have e1 : L = L.take k ++ L[k] :: L.drop (k + 1) := by
    rw [← List.drop_eq_getElem_cons hk, List.take_append_drop]
  have e2 : L.set k ⟨p, x, y, q, (L[k]).z + z⟩ = L.take k ++ ⟨p, x, y, q, (L[k]).z + z⟩ :: L.drop (k + 1) := List.set_eq_take_append_cons_drop.trans (by rw [if_pos hk])
  have hpk : (L[k]).p = p := by rw [← primes_at hk]; exact hp
  have e3 : absL L = absL (L.take k) ++ ((p : Int), (L[k]).z) :: absL (L.drop (k + 1)) := by
    conv => lhs; rw [e1]
    rw [absL_join, ← hpk]
    rfl
  rw [e2, absL_join]
  rw [e3] at hr ⊢
  exact put_found hr
end Go.Proofs.YtphecjjblnnjdaaGreatDoor

/- (*Wide).Prime. -/
namespace Go.Proofs.YtphecjjblnnjdaaGreatDoor
open Go.RowKit

theorem Tryz.infoRatio : (Tryz.prog.info? 54).map (fun i => (i.zero, i.size, i.bytes)) = some (some (.agg #[.bool false, .slice none 0 0, .slice none 0 0]), 3, 56) := by kernel_rfl
theorem dig_one (l : List Nat) : ∀ u ∈ digCells l, u.oneCell' = true := fun u hu => by
  unfold digCells at hu
  obtain ⟨d, _, rfl⟩ := List.mem_map.1 hu
  rfl

set_option maxRecDepth 100000 in
set_option maxHeartbeats 2000000 in
theorem Prime_more (base M B p : Nat) (z : Int) (cv : Value) (gp gc capp capc : Nat) (L : List Ent) (k0 : Nat) (w : World) (hW : WideAt base M w B (.slice (some ⟨gp, 0, none⟩) L.length capp) (.slice (some ⟨gc, 0, none⟩) L.length capc) L) (hc : RatioAt w cv (lowN M z) (lowD M z)) (hM : 0 < M) (hr : Rising (absL L)) (hL : 0 < L.length) (hlen : L.length ≤ 100000) (hbz : z.natAbs < 1000000 ^ k0) (hbL : ∀ e ∈ L, e.z.natAbs < 1000000 ^ k0) (hbM : M < 1000000 ^ k0) (hk0 : k0 ≤ 1000) :
    Calls Tryz.prog 52 #[.pointer (some ⟨B, 0, none⟩), .int .i64 p, cv] w fun e w' => e = .returned (.tuple #[]) ∧ ∃ vp' vc' L', WideAt base M w' B vp' vc' L' ∧ Put (absL L) (absL L') p z ∧ IntsKept w w' ∧ Moved B w w' ∧ Below base w w' := by
  obtain ⟨s, ad, l, cap, ad', l', cap', rfl⟩ := hc.parts
  have hb0 : Below w.heap.size w (w.alloc (.cells #[.bool s, .slice ad l cap, .slice ad' l' cap'] 54)) := new_below _ _
  have c0 := (hW.later hb0).cp
  have c1 := (hW.later hb0).cc
  have hrow : ∀ i, i < L.length → (w.alloc (.cells #[.bool s, .slice ad l cap, .slice ad' l' cap'] 54)).cell? ⟨gp, i, none⟩ = some (.int .i64 (((primes L).getD i 0 : Nat) : Int)) := fun i hi => by
    have h1 := (hW.later hb0).P.cellAt i (by omega)
    rw [h1, digCells_get (by unfold primes; simpa using hi)]
  obtain ⟨i0, hi, hz0, hz1, hz2⟩ := info_parts Tryz.infoInt
  have HINF : Hid (Tryz.prog.info? 3 = some i0 ∧ i0.zero = some (.int .i64 0) ∧ i0.size = 1 ∧ i0.bytes = 8) := ⟨hi, hz0, hz1, hz2⟩
  clear hi hz0 hz1 hz2
  obtain ⟨i3, hi, hz0, hz1, hz2⟩ := info_parts Tryz.infoRatio
  have HINR : Hid (Tryz.prog.info? 54 = some i3 ∧ i3.zero = some (.agg #[.bool false, .slice none 0 0, .slice none 0 0]) ∧ i3.size = 3 ∧ i3.bytes = 56) := ⟨hi, hz0, hz1, hz2⟩
  clear hi hz0 hz1 hz2
  have HROW := Hid.mk' hrow
  have HW := Hid.mk' hW
  have HBL := Hid.mk' hbL
  have HC := Hid.mk' hc
  have HR := Hid.mk' hr
  clear hW hc hr hrow hb0 hbL
  go_enter Tryz.func52, Tryz.ntmps52
  obtain ⟨W1, hW1⟩ : ∃ W1, W1 = w.alloc (.cells #[.bool s, .slice ad l cap, .slice ad' l' cap'] 54) := ⟨_, rfl⟩
  rw [← hW1] at c0 c1 HROW
  have HW1 := Hid.mk' hW1
  clear hW1
  go_upto_block 0 with fail
  rw [← HW1.out]
  go_cut [6] from 9 (fun t wx => ∃ k : Nat, t = .int .i64 k ∧ k ≤ L.length ∧ Hid (∀ i, i < k → (primes L).getD i 0 < p) ∧ Hid (k < L.length → p ≤ (primes L).getD k 0) ∧ wx = W1)
  case first =>
    go_wp2_with fail
    go_loopw [6] (fun t wr => ∃ k : Nat, t = .int .i64 k ∧ k ≤ L.length ∧ Hid (∀ i, i < k → (primes L).getD i 0 < p) ∧ wr = W1) (fun t _ => L.length - (intOf t).toNat)
    case atStart => exact ⟨0, rfl, by omega, Hid.mk' (fun i hi => absurd hi (by omega)), rfl⟩
    case round =>
      obtain ⟨k, rfl, hk, HLT, rfl⟩ := hrel
      by_cases hkn : k < L.length
      · have hck := HROW.out k hkn
        obtain ⟨q, hq⟩ : ∃ q, (primes L).getD k 0 = q := ⟨_, rfl⟩
        rw [hq] at hck
        have HQ := Hid.mk' hq
        clear hq
        have hkI : (k : Int) < (L.length : Int) := by omega
        have hk0 : (0 : Int) ≤ (k : Int) := by omega
        by_cases hqp : q < p
        · have hqI : (q : Int) < (p : Int) := by omega
          go_wp2_with fail
          go_roundw
          case measure => simp [intOf]; omega
          case rel =>
            refine ⟨k + 1, by simp, by omega, Hid.mk' (fun i hi => ?_), by simp⟩
            rcases Nat.lt_or_ge i k with h | h
            · exact HLT.out i h
            · obtain rfl : i = k := by omega
              rw [HQ.out]; exact hqp
        · have hqI : ¬ (q : Int) < (p : Int) := by omega
          go_wp2_with fail
          go_meet
          exact ⟨k, rfl, hk, HLT, Hid.mk' (fun _ => by rw [HQ.out]; omega), rfl⟩
      · have hkI : ¬ (k : Int) < (L.length : Int) := by omega
        go_wp2_with fail
        go_meet
        exact ⟨k, rfl, hk, HLT, Hid.mk' (fun h => absurd h hkn), rfl⟩
  case rest =>
    obtain ⟨k, rfl, hk, HLT, HGE, hwc⟩ := hcut
    rw [hwc]
    clear hwc
    go_upto_region 4 with fail
    go_cut [46] from 29 (fun t wx => ∃ b : Bool, t = .bool b ∧ Hid (b = true ↔ (k < L.length ∧ (primes L).getD k 0 = p)) ∧ wx = W1)
    case first =>
      by_cases hkn : k < L.length
      · have hck := HROW.out k hkn
        obtain ⟨q, hq⟩ : ∃ q, (primes L).getD k 0 = q := ⟨_, rfl⟩
        rw [hq] at hck
        have HQ := Hid.mk' hq
        clear hq
        have hkI : (k : Int) < (L.length : Int) := by omega
        have hk0 : (0 : Int) ≤ (k : Int) := by omega
        by_cases hqp : q = p
        · have hqI : (q : Int) = (p : Int) := by omega
          go_wp2_with fail
          go_meet
          exact ⟨true, rfl, Hid.mk' ⟨fun _ => ⟨hkn, by rw [HQ.out]; exact hqp⟩, fun _ => rfl⟩, rfl⟩
        · have hqI : ¬ (q : Int) = (p : Int) := by omega
          go_wp2_with fail
          go_meet
          exact ⟨false, by simp; omega, Hid.mk' ⟨(fun h => absurd h (by decide)), (fun h => absurd (HQ.out.symm.trans h.2) hqp)⟩, rfl⟩
      · have hkI : ¬ (k : Int) < (L.length : Int) := by omega
        go_wp2_with fail
        go_meet
        exact ⟨false, rfl, Hid.mk' ⟨(fun h => absurd h (by decide)), (fun h => absurd h.1 hkn)⟩, rfl⟩
    case rest =>
      obtain ⟨bf, rfl, HF, hwc⟩ := hcut
      rw [hwc]
      clear hwc
      cases bf
      · have hkI : (k : Int) ≤ (L.length : Int) := by omega
        have hk0 : (0 : Int) ≤ (k : Int) := by omega
        have HWA : Hid (WideAt base M W1 B (.slice (some ⟨gp, 0, none⟩) L.length capp) (.slice (some ⟨gc, 0, none⟩) L.length capc) L) := by
          rw [HW1.out]; exact HW.out.later (new_below _ _)
        have hcapp : L.length ≤ capp := by
          rcases HWA.out.P.2 with ⟨h, _⟩ | ⟨g, c, cur, h, _, _, hle, _⟩
          · cases h
          · have : capp = c := by injection h
            omega
        have hcapc : L.length ≤ capc := by
          rcases HWA.out.C.2 with ⟨h, _⟩ | ⟨g, c, cur, h, _, _, hle, _⟩
          · cases h
          · have : capc = c := by injection h
            omega
        have hcpI : (L.length : Int) ≤ (capp : Int) := by omega
        have hccI : (L.length : Int) ≤ (capc : Int) := by omega
        have hlp : (primes L).length = L.length := by unfold primes; simp
        have hdc : (digCells ((primes L).take k)).length = k * 1 := by rw [digCells_length, List.length_take]; omega
        have hdd : (digCells ((primes L).drop k)).length = (L.length - k) * 1 := by rw [digCells_length, List.length_drop]; omega
        have HDC := Hid.mk' hdc
        have HDD := Hid.mk' hdd
        have HS1 : Hid (∀ j u, (digCells ((primes L).take k))[j]? = some u → ∃ a', some (⟨gp, 0, none⟩ : Addr) = some a' ∧ W1.cell? (a'.add j) = some u) := by
          have h1 := HWA.out.P
          rw [dig_cut _ k] at h1
          exact src_left h1
        have HS3 : Hid (∀ W, Below W1.heap.size W1 W → ∀ j u, (digCells ((primes L).drop k))[j]? = some u → ∃ a', (if capp = k then some (⟨gp, 0, none⟩ : Addr) else some ⟨gp, k, none⟩) = some a' ∧ W.cell? (a'.add j) = some u) := fun W hb => by
          have h1 := (HWA.out.later hb).P
          rw [dig_cut _ k] at h1
          exact src_right_if h1 (by omega) (fun h => List.length_eq_zero_iff.1 (by rw [hdd]; omega))
        have HF3 : Hid ((flat3 (L.take k)).length = k * 3 ∧ (flat3 (L.drop k)).length = (L.length - k) * 3) := ⟨by rw [flat3_length, List.length_take]; omega, by rw [flat3_length, List.length_drop]⟩
        have HONE : Hid ((∀ u ∈ flat3 (L.take k), u.oneCell' = true) ∧ ∀ u ∈ flat3 (L.drop k), u.oneCell' = true) := by
          have h1 := HWA.out.no_ints
          rw [flat3_take L k] at h1
          exact ⟨fun u hu => (h1 u (List.mem_append_left _ hu)).2, fun u hu => (h1 u (List.mem_append_right _ hu)).2⟩
        have HROWC : Hid (∀ W : World, W.ownsRow base 54 3 (.slice (some ⟨gc, 0, none⟩) L.length capc) L.length (flat3 L) → (∀ j u, (flat3 (L.take k))[j]? = some u → ∃ a', some (⟨gc, 0, none⟩ : Addr) = some a' ∧ W.cell? (a'.add j) = some u) ∧ ∀ j u, (flat3 (L.drop k))[j]? = some u → ∃ a', (if capc = k then some (⟨gc, 0, none⟩ : Addr) else some ⟨gc, k * 3, none⟩) = some a' ∧ W.cell? (a'.add j) = some u) := fun W h1 => by
          rw [flat3_take L k] at h1
          exact ⟨src_left h1, src_right_if h1 HF3.out.1 (fun h => List.length_eq_zero_iff.1 (by rw [HF3.out.2]; omega))⟩
        clear hlp hdc hdd
        go_upto_region 10 with (at_builtin; go_must (first
          | (refine wpList_append_src _ rfl _ _ _ rfl W1.heap.size 3 i0 _ 1 8 Tryz.underlying22 HINF.out.1 HINF.out.2.1 HINF.out.2.2.1 HINF.out.2.2.2 rfl (by omega) (.slice ad2 (k + 1) c2) (k + 1) (digCells ((primes L).take k) ++ [.int .i64 (p : Int)]) rfl HO3.out (if capp = k then some ⟨gp, 0, none⟩ else some ⟨gp, k, none⟩) (L.length - k) (capp - k) (digCells ((primes L).drop k)) rfl HDD.out (HS3.out _ HB3.out) (dig_one _) (by unfold maxLen; omega) (by omega) HB3.out.size (L.length + 1) (by omega) ?_; intro ad3 c3 w4 hown4 hg4; have HO4 := Hid.mk' hown4; have HB4 := Hid.mk' (HB3.out.grown hg4 HB3.out.size (fun k h => (HO3.out.lt k h).1)); have c0 := (HWA.out.later HB4.out).cp; have f0 := (HWA.out.later HB4.out).f0; clear hown4 hg4 HO3 HB3)
          | (refine wpList_append_src _ rfl _ _ _ rfl W1.heap.size 3 i0 _ 1 8 Tryz.underlying22 HINF.out.1 HINF.out.2.1 HINF.out.2.2.1 HINF.out.2.2.2 rfl (by omega) (.slice ad1 k cp1) k (digCells ((primes L).take k)) rfl (HO2.out.alloc _) (some ⟨w2.heap.size, 0, none⟩) 1 1 [.int .i64 (p : Int)] rfl rfl (src_new _ _ _) (fun u hu => by simp at hu; subst hu; rfl) (by unfold maxLen; omega) (by omega) (Nat.le_trans HB2.out.size (by simp)) (k + 1) rfl ?_; intro ad2 c2 w3 hown3 hg3; have HO3 := Hid.mk' hown3; have HB3 := Hid.mk' (below_push HB2.out HO2.out hg3); have c0 := (HWA.out.later HB3.out).cp; clear hown3 hg3 HO2 HB2)
          | (refine wpList_append_src _ rfl _ _ _ rfl W1.heap.size 3 i0 _ 1 8 Tryz.underlying22 HINF.out.1 HINF.out.2.1 HINF.out.2.2.1 HINF.out.2.2.2 rfl (by omega) (.slice none 0 0) 0 [] rfl (World.ownsRow_nil _ _ _ _) (some ⟨gp, 0, none⟩) k capp (digCells ((primes L).take k)) rfl HDC.out HS1.out (dig_one _) (by unfold maxLen; omega) (by omega) (Nat.le_refl _) k (by omega) ?_; intro ad1 cp1 w2 hown2 hg2; have HO2 : Hid (w2.ownsRow W1.heap.size 3 1 (.slice ad1 k cp1) k (digCells ((primes L).take k))) := hown2; have HB2 := Hid.mk' ((Below.refl W1.heap.size W1).grown hg2 (Nat.le_refl _) (fun k h => by cases h)); clear hown2 hg2)))
        have HP4 : Hid (w4.ownsRow W1.heap.size 3 1 (.slice ad3 (L.length + 1) c3) (L.length + 1) (digCells (primes (L.take k)) ++ [.int .i64 (p : Int)] ++ digCells (primes (L.drop k)))) := by
          have h1 := HO4.out
          have e1 : (primes L).take k = primes (L.take k) := by unfold primes; rw [List.map_take]
          have e2 : (primes L).drop k = primes (L.drop k) := by unfold primes; rw [List.map_drop]
          rw [e1, e2] at h1
          exact h1
        obtain ⟨W2, hW2⟩ : ∃ W2, W2 = w4.setCell ⟨B, 0, none⟩ (.slice ad3 (L.length + 1) c3) := ⟨_, rfl⟩
        have hwB : w.heap.size ≠ B := by have := HW.out.lt; omega
        have hbx : w4.cell? ⟨w.heap.size, 0, none⟩ = some (.bool s) ∧ w4.cell? ⟨w.heap.size, 1, none⟩ = some (.slice ad l cap) ∧ w4.cell? ⟨w.heap.size, 2, none⟩ = some (.slice ad' l' cap') := by
          have h1 := HB4.out
          rw [HW1.out] at h1
          exact three_new_past h1
        have HKC : Hid (∀ W, Below W2.heap.size W2 W → W.cell? ⟨B, 1, none⟩ = some (.slice (some ⟨gc, 0, none⟩) L.length capc) ∧ W.frozen? ⟨B, 1, none⟩ = false ∧ (W.cell? ⟨w.heap.size, 0, none⟩ = some (.bool s) ∧ W.cell? ⟨w.heap.size, 1, none⟩ = some (.slice ad l cap) ∧ W.cell? ⟨w.heap.size, 2, none⟩ = some (.slice ad' l' cap')) ∧ W.ownsRow base 54 3 (.slice (some ⟨gc, 0, none⟩) L.length capc) L.length (flat3 L)) := fun W hb => by
          have h4 := HWA.out.later HB4.out
          have q1 : W2.cell? ⟨B, 1, none⟩ = some (.slice (some ⟨gc, 0, none⟩) L.length capc) := by rw [hW2]; exact (cell_set0 h4.cp h4.cc).2
          have q2 : W2.frozen? ⟨B, 1, none⟩ = false := by rw [hW2, World.frozen?_setCell]; exact h4.f1
          have hgB : gc ≠ B := fun e => by
            have h5 := h4.C.cellAt 0 (by omega)
            have h6 := h4.cp
            rw [e, h6] at h5
            obtain ⟨e0, he0⟩ : ∃ e0, L[0]? = some e0 := ⟨_, List.getElem?_eq_getElem hL⟩
            have h7 := (flat3_at L 0 e0 he0).1
            obtain ⟨s', _, _, _, _, _, _, h8, _⟩ := Ent.parts (h4.R e0 (List.mem_of_getElem? he0))
            rw [Nat.zero_mul] at h7
            rw [h7, h8] at h5
            cases h5
          have q3 : W2.ownsRow base 54 3 (.slice (some ⟨gc, 0, none⟩) L.length capc) L.length (flat3 L) := by
            rw [hW2]
            exact h4.C.kept (grownBy_set _ _ _) (Or.inr (by simp [Value.ownBlock]; exact hgB))
          have q4 : ∀ j v, w4.cell? ⟨w.heap.size, j, none⟩ = some v → W2.cell? ⟨w.heap.size, j, none⟩ = some v := fun j v h => by
            rw [hW2, World.cell?_setCell_far _ _ _ _ (Ne.symm hwB)]; exact h
          exact ⟨(cell_past q1 hb).2, (frozen_past q1 q2 hb).2, ⟨(cell_past (q4 _ _ hbx.1) hb).2, (cell_past (q4 _ _ hbx.2.1) hb).2, (cell_past (q4 _ _ hbx.2.2) hb).2⟩, ownsRow_past q3 hb⟩
        rw [← hW2]
        have HW2 := Hid.mk' hW2
        clear hW2 hbx c0 f0 c1 HO4 HS1 HS3 HDC HDD
        obtain ⟨c1, _, ⟨b0, b1, b2⟩, hrc⟩ := HKC.out W2 (Below.refl _ _)
        have HRC := Hid.mk' (HROWC.out _ hrc)
        clear hrc
        go_wp2_with (at_builtin; go_must (first
          | (refine wpList_append_src _ rfl _ _ _ rfl W2.heap.size 54 i3 _ 3 56 Tryz.underlying46 HINR.out.1 HINR.out.2.1 HINR.out.2.2.1 HINR.out.2.2.2 rfl (by omega) (.slice ad5 (k + 1) c5) (k + 1) (flat3 (L.take k) ++ [.bool s, .slice ad l cap, .slice ad' l' cap']) rfl HO6.out (if capc = k then some ⟨gc, 0, none⟩ else some ⟨gc, k * 3, none⟩) (L.length - k) (capc - k) (flat3 (L.drop k)) rfl HF3.out.2 HRC6.out.2 HONE.out.2 (by unfold maxLen; omega) (by omega) HB6.out.size (L.length + 1) (by omega) ?_; intro ad6 c6 w7 hown7 hg7; have HO7 := Hid.mk' hown7; have HB7 := Hid.mk' (HB6.out.grown hg7 HB6.out.size (fun k h => (HO6.out.lt k h).1)); obtain ⟨c1, f1, _, _⟩ := HKC.out _ HB7.out; clear hown7 hg7 HO6 HB6)
          | (refine wpList_append_src _ rfl _ _ _ rfl W2.heap.size 54 i3 _ 3 56 Tryz.underlying46 HINR.out.1 HINR.out.2.1 HINR.out.2.2.1 HINR.out.2.2.2 rfl (by omega) (.slice ad4 k c4) k (flat3 (L.take k)) rfl (HO5.out.alloc _) (some ⟨w5.heap.size, 0, none⟩) 1 1 [.bool s, .slice ad l cap, .slice ad' l' cap'] rfl rfl (src_new _ _ _) (fun u hu => by simp at hu; rcases hu with rfl | rfl | rfl <;> rfl) (by unfold maxLen; omega) (by omega) (Nat.le_trans HB5.out.size (by simp)) (k + 1) rfl ?_; intro ad5 c5 w6 hown6 hg6; have HO6 := Hid.mk' hown6; have HB6 := Hid.mk' (below_push HB5.out HO5.out hg6); obtain ⟨c1, _, _, hrc⟩ := HKC.out _ HB6.out; have HRC6 := Hid.mk' (HROWC.out _ hrc); clear hrc hown6 hg6 HO5 HB5)
          | (refine wpList_append_src _ rfl _ _ _ rfl W2.heap.size 54 i3 _ 3 56 Tryz.underlying46 HINR.out.1 HINR.out.2.1 HINR.out.2.2.1 HINR.out.2.2.2 rfl (by omega) (.slice none 0 0) 0 [] rfl (World.ownsRow_nil _ _ _ _) (some ⟨gc, 0, none⟩) k capc (flat3 (L.take k)) rfl HF3.out.1 HRC.out.1 HONE.out.1 (by unfold maxLen; omega) (by omega) (Nat.le_refl _) k (by omega) ?_; intro ad4 c4 w5 hown5 hg5; have HO5 : Hid (w5.ownsRow W2.heap.size 54 3 (.slice ad4 k c4) k (flat3 (L.take k))) := hown5; have HB5 := Hid.mk' ((Below.refl W2.heap.size W2).grown hg5 (Nat.le_refl _) (fun k h => by cases h)); obtain ⟨_, _, ⟨b0, b1, b2⟩, _⟩ := HKC.out _ HB5.out; clear hown5 hg5)))
        all_goals
          obtain ⟨x1, x2, x3, x4⟩ := wide_insert (e := ⟨p, .bool s, .slice ad l cap, .slice ad' l' cap', z⟩) HWA.out HB4.out HP4.out HW2.out HB7.out HO7.out (by rw [HW1.out]; exact HC.out.later (new_below _ _))
          have hWb : Below w.heap.size w W1 := by rw [HW1.out]; exact new_below _ _
          go_end0
          refine ⟨rfl, _, _, _, x1, ?_, (IntsKept.of_below hWb).trans x2, (Moved.of_below hWb HW.out.lt).trans x3, (hWb.mono (by have := HW.out.hB; have := HW.out.lt; omega)).trans x4⟩
          exact put_between HR.out HLT.out HGE.out HF.out
      · obtain ⟨hkn, hkp⟩ := HF.out.1 rfl
        have hkI : (k : Int) < (L.length : Int) := by omega
        have hk0 : (0 : Int) ≤ (k : Int) := by omega
        have HWA : Hid (WideAt base M W1 B (.slice (some ⟨gp, 0, none⟩) L.length capp) (.slice (some ⟨gc, 0, none⟩) L.length capc) L) := by
          rw [HW1.out]; exact HW.out.later (new_below _ _)
        obtain ⟨f, hf⟩ : ∃ f, L[k]? = some f := ⟨_, List.getElem?_eq_getElem hkn⟩
        have hfk : L[k] = f := by rw [List.getElem?_eq_getElem hkn] at hf; exact Option.some.inj hf
        have hmem : f ∈ L := List.mem_of_getElem? hf
        obtain ⟨fs, fa, fl, fc, fa', fl', fc', q0, q1, q2⟩ := Ent.parts (HWA.out.R f hmem)
        have HKS : Hid (∀ W, Below W1.heap.size W1 W → (W.cell? ⟨B, 1, none⟩ = some (.slice (some ⟨gc, 0, none⟩) L.length capc)) ∧ (W.cell? ⟨gc, k * 3, none⟩ = some (.bool fs) ∧ W.cell? ⟨gc, k * 3 + 1, none⟩ = some (.slice fa fl fc) ∧ W.cell? ⟨gc, k * 3 + 2, none⟩ = some (.slice fa' fl' fc')) ∧ (W.cell? ⟨w.heap.size, 0, none⟩ = some (.bool s) ∧ W.cell? ⟨w.heap.size, 1, none⟩ = some (.slice ad l cap) ∧ W.cell? ⟨w.heap.size, 2, none⟩ = some (.slice ad' l' cap')) ∧ (W.frozen? ⟨gc, k * 3, none⟩ = false ∧ W.frozen? ⟨gc, k * 3 + 1, none⟩ = false ∧ W.frozen? ⟨gc, k * 3 + 2, none⟩ = false)) := fun W hb => by
          have h5 := HWA.out.later hb
          obtain ⟨x0, x1, x2⟩ := flat3_at L k f hf
          have hbx := hb
          rw [HW1.out] at hbx
          exact ⟨h5.cc, ⟨by rw [h5.C.cellAt _ (by omega), x0, q0], by rw [h5.C.cellAt _ (by omega), x1, q1], by rw [h5.C.cellAt _ (by omega), x2, q2]⟩, three_new_past hbx, h5.C.frozenAt _, h5.C.frozenAt _, h5.C.frozenAt _⟩
        have HR1 : Hid (RatioAt W1 (.agg #[.bool fs, .slice fa fl fc, .slice fa' fl' fc']) (lowN M f.z) (lowD M f.z)) := by
          have h1 := HWA.out.R f hmem
          unfold Ent.val at h1
          rw [q0, q1, q2] at h1
          exact h1
        have HR2 : Hid (RatioAt W1 (.agg #[.bool s, .slice ad l cap, .slice ad' l' cap']) (lowN M z) (lowD M z)) := by rw [HW1.out]; exact HC.out.later (new_below _ _)
        have HPL := Hid.mk' (fun (W : World) (hb : Below W1.heap.size W1 W) => Plus_ratio _ _ (lowN M f.z) (lowN M z) (lowD M f.z) (lowD M z) k0 W (HR1.out.later hb) (HR2.out.later hb) (lowD_pos hM _) (lowD_pos hM _) (Nat.lt_of_le_of_lt (lowN_le hM _) (HBL.out f hmem)) (Nat.lt_of_le_of_lt (lowN_le hM _) hbz) (Nat.lt_of_le_of_lt (lowD_le _ _) hbM) (Nat.lt_of_le_of_lt (lowD_le _ _) hbM) (by omega))
        have hcur : Below W1.heap.size W1 W1.drew := (Below.refl _ _).drew
        have hcur0 : Below W1.heap.size W1 W1 := Below.refl _ _
        obtain ⟨_, ⟨a0, a1, a2⟩, ⟨b0, b1, b2⟩, _⟩ := HKS.out W1 hcur0
        have HKA : Hid (∀ (W : World) (x y q : Value), Below W1.heap.size W1 W → (((W.setCell ⟨gc, k * 3, none⟩ x).setCell ⟨gc, k * 3 + 1, none⟩ y).setCell ⟨gc, k * 3 + 2, none⟩ q).cell? ⟨B, 1, none⟩ = some (.slice (some ⟨gc, 0, none⟩) L.length capc)) := fun W x y q hb => by
          have hgB := ((HWA.out.later hb).apart hL).1
          rw [World.cell?_setCell_far _ _ _ _ hgB, World.cell?_setCell_far _ _ _ _ hgB, World.cell?_setCell_far _ _ _ _ hgB]
          exact (HKS.out _ hb).1
        have HKP := Hid.mk' hkp
        have HFK := Hid.mk' hfk
        clear hf hmem q0 q1 q2 HR1 HR2 hkp hfk
        go_wp2_with fail
        go_region_with (first | (go_at_call 49; refine (HPL.out _ hcur).mono ?_; rintro e w5 ⟨r, rfl, hr5, hb5⟩; obtain ⟨rs, ra, rl, rc, ra', rl', rc', rfl⟩ := hr5.parts; have hc5 := below_chain hcur hb5; have HR5 := Hid.mk' hr5; obtain ⟨c5, _, _, v0, v1, v2⟩ := HKS.out _ hc5; clear hr5 hb5))
        all_goals
          go_wp2_with fail
          refine bodyPost_ret (results_none Tryz.results52 _ _ _) rfl ?_
          have hlow := low_plus hM f.z z
          have hr5 := HR5.out
          rw [hlow.1, hlow.2] at hr5
          obtain ⟨x1, x2, x3, x4⟩ := wide_store (e := ⟨p, .bool rs, .slice ra rl rc, .slice ra' rl' rc', f.z + z⟩) HWA.out hkn hc5 (by rw [← primes_at hkn]; exact HKP.out.symm) hr5
          have hWb : Below w.heap.size w W1 := by rw [HW1.out]; exact new_below _ _
          refine ⟨rfl, _, _, _, x1, ?_, (IntsKept.of_below hWb).trans x2, (Moved.of_below hWb HW.out.lt).trans x3, (hWb.mono (by have := HW.out.hB; have := HW.out.lt; omega)).trans x4⟩
          have := put_at (x := .bool rs) (y := .slice ra rl rc) (q := .slice ra' rl' rc') (z := z) HR.out hkn HKP.out
          rw [HFK.out] at this
          exact this
end Go.Proofs.YtphecjjblnnjdaaGreatDoor
