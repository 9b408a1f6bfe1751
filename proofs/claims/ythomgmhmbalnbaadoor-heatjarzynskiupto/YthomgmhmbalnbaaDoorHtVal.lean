/- heat.weightsError: which weights of a process are right. -/
import Derived.Test.YthomgmhmbalnbaaDoorHtMath
import Derived.Test.YthomgmhmbalnbaaDoorTab
import Derived.Test.YthomgmhmbalnbaaDoorErrs
import Derived.Test.YthomgmhmbalnbaaDoorWeights
import Derived.BigQuiet
import Derived.Deep.CutRange
import Derived.Deep.RegionHeld3
namespace Go.Proofs.YthomgmhmbalnbaaDoor
open Go.RowKit

def anyB (p : Nat → Bool) : Nat → Bool
  | 0 => false
  | k + 1 => anyB p k || p k
theorem anyB_at {p : Nat → Bool} {k : Nat} (hk : p k = true) : ∀ {n : Nat}, k < n → anyB p n = true
  | 0, h => by omega
  | n + 1, h => by
    rw [anyB]
    rcases Nat.lt_or_ge k n with h1 | h1
    · rw [anyB_at hk h1]; rfl
    · obtain rfl : k = n := by omega
      rw [hk, Bool.or_true]
theorem anyB_no {p : Nat → Bool} : ∀ {n : Nat}, anyB p n = false → ∀ i, i < n → p i = false
  | 0, _, i, h => by omega
  | n + 1, h, i, hi => by
    rw [anyB, Bool.or_eq_false_iff] at h
    rcases Nat.lt_or_ge i n with h1 | h1
    · exact anyB_no h.1 i h1
    · obtain rfl : i = n := by omega
      exact h.2
theorem anyB_none {p : Nat → Bool} : ∀ {n : Nat}, (∀ i, i < n → p i = false) → anyB p n = false
  | 0, _ => rfl
  | n + 1, h => by rw [anyB, anyB_none (fun i hi => h i (by omega)), h n (by omega)]; rfl
theorem anyB_is {p : Nat → Bool} : ∀ {n : Nat}, anyB p n = true → ∃ k, k < n ∧ p k = true
  | 0, h => by cases h
  | n + 1, h => by
    rw [anyB, Bool.or_eq_true] at h
    rcases h with h | h
    · obtain ⟨k, h1, h2⟩ := anyB_is h
      exact ⟨k, by omega, h2⟩
    · exact ⟨n, by omega, h⟩
def noW (x : Int) : Bool := decide (x < 1) || decide (1000 < x)
def manyB (ns : Nat → Nat) : Nat → Bool := anyB fun i => decide (4 < ns i)
def noWs (z : Nat → Int) (n : Nat) : Bool := anyB (fun k => noW (z k)) n
def badR (n0 : Nat) (n : Nat) (z : Nat → Int) : Bool := decide (n = 0) || (decide (n ≠ n0) || noWs z n)
def wtE (L : Nat) (ns : Nat → Nat) (W : Nat → Nat → Int) (T : Nat) : Nat := if 5 < L ∨ manyB ns L = true then 2 else if L ≠ T + 1 ∨ anyB (fun i => badR (ns 0) (ns i) (W i)) L = true then 3 else 0
theorem wtE_le (L : Nat) (ns : Nat → Nat) (W : Nat → Nat → Int) (T : Nat) : wtE L ns W T ≤ 3 := by
  unfold wtE
  split
  · decide
  · split <;> decide
theorem noW_no {x : Int} (h : noW x = false) : 1 ≤ x ∧ x ≤ 1000 := by
  simp [noW] at h
  omega
theorem wtE_ok {L : Nat} {ns : Nat → Nat} {W : Nat → Nat → Int} {T : Nat} (h : wtE L ns W T = 0) : L ≤ 5 ∧ L = T + 1 ∧ 0 < ns 0 ∧ ns 0 ≤ 4 ∧ (∀ i, i < L → ns i = ns 0) ∧ ∀ i k, i < L → k < ns 0 → 1 ≤ W i k ∧ W i k ≤ 1000 := by
  unfold wtE at h
  split at h
  · cases h
  · rename_i h1
    split at h
    · cases h
    · rename_i h2
      have h3 : manyB ns L = false := by
        cases hm : manyB ns L with
        | false => rfl
        | true => exact absurd (Or.inr hm) h1
      have h4 : anyB (fun i => badR (ns 0) (ns i) (W i)) L = false := by
        cases hm : anyB (fun i => badR (ns 0) (ns i) (W i)) L with
        | false => rfl
        | true => exact absurd (Or.inr hm) h2
      have hL : L = T + 1 := by omega
      have h5 : ∀ i, i < L → ns i ≠ 0 ∧ ns i = ns 0 ∧ noWs (W i) (ns i) = false := fun i hi => by
        have := anyB_no h4 i hi
        simp only [badR, Bool.or_eq_false_iff, decide_eq_false_iff_not, Decidable.not_not] at this
        exact this
      have h6 := anyB_no h3 0 (by omega)
      simp only [decide_eq_false_iff_not] at h6
      refine ⟨by omega, hL, by have := (h5 0 (by omega)).1; omega, by omega, fun i hi => (h5 i hi).2.1, fun i k hi hk => noW_no (anyB_no (h5 i hi).2.2 k (by rw [(h5 i hi).2.1]; exact hk))⟩

theorem hasMany_any (ad : Option Addr) (n cap : Nat) (w : World) (hn : n ≤ 1000000) :
    Calls Tryd.prog 64 #[.slice ad n cap] w fun e w' => e = .returned (.bool (decide (4 < n))) ∧ w' = w := by
  by_cases h : 4 < n
  · have hI : (4 : Int) < (n : Int) := by omega
    rw [decide_eq_true h]
    go_enter Tryd.func64, Tryd.ntmps64
    go_wp2_with fail
    go_ret
    exact ⟨rfl, rfl⟩
  · have hI : ¬ (4 : Int) < (n : Int) := by omega
    rw [decide_eq_false h]
    go_enter Tryd.func64, Tryd.ntmps64
    go_wp2_with fail
    go_ret
    exact ⟨rfl, rfl⟩
theorem isNoW_any (x : Int) (w : World) :
    Calls Tryd.prog 66 #[.int .i64 x] w fun e w' => e = .returned (.bool (noW x)) ∧ w' = w := by
  by_cases h : x < 1
  · have hd : decide (x < 1) = true := decide_eq_true h
    have HR : Hid (noW x = true) := by show _ = _; rw [noW, hd]; rfl
    clear h
    go_enter Tryd.func66, Tryd.ntmps66
    go_wp2_with fail
    go_ret
    exact ⟨by rw [HR.out]; rfl, rfl⟩
  · have hd : decide (x < 1) = false := decide_eq_false h
    have HR : Hid (noW x = decide (1000 < x)) := by show _ = _; rw [noW, hd]; rfl
    clear h
    go_enter Tryd.func66, Tryd.ntmps66
    go_wp2_with fail
    go_ret
    exact ⟨by rw [HR.out]; rfl, rfl⟩

set_option maxRecDepth 100000 in
set_option maxHeartbeats 1000000 in
theorem IndexFunc_many (v : Value) (n : Nat) (vs : Nat → Value) (ns : Nat → Nat) (zs : Nat → Nat → Int) (w : World) (h : TabAt w v n vs ns zs) (hn : n ≤ 16) (hns : ∀ i, i < n → ns i ≤ 1000000) :
    Calls Tryd.prog 77 #[v, .func (.func 64) #[] #[]] w fun e w' => (∃ x : Int, e = .returned (.int .i64 x) ∧ ((0 ≤ x ↔ manyB ns n = true) ∧ -1 ≤ x ∧ x ≤ 16)) ∧ w' = w := by
  obtain ⟨ad, cap, rfl⟩ := h.form
  have HT := Hid.mk' h
  have HNS := Hid.mk' hns
  clear h hns
  go_enter Tryd.func77, Tryd.ntmps77
  go_wp2_with fail
  go_loop [8] (fun t => ∃ k : Nat, k ≤ n ∧ t = .int .i64 k ∧ Hid (manyB ns k = false)) (fun t => n - (intOf t).toNat)
  case atStart => exact ⟨0, Nat.zero_le _, rfl, rfl⟩
  case round =>
    obtain ⟨k, hk, rfl, HS⟩ := hrel
    rcases Nat.lt_or_ge k n with h1 | h1
    · have hkI : (k : Int) < (n : Int) := by omega
      have hk0 : (0 : Int) ≤ (k : Int) := by omega
      obtain ⟨b, o, rfl, hc, hnum⟩ : ∃ b o, ad = some ⟨b, o, none⟩ ∧ w.cell? ⟨b, o + k, none⟩ = some (vs k) ∧ NumsAt w (vs k) (ns k) (zs k) := by
        rcases HT.out with ⟨_, _, h1', h2'⟩ | ⟨b, o, c, h1', _, h2⟩
        · omega
        · simp only [Value.slice.injEq, true_and] at h1'
          exact ⟨b, o, h1'.1, h2 k h1⟩
      obtain ⟨rad, rcap, hre⟩ := hnum.form
      rw [hre] at hc
      have hnk := HNS.out k h1
      have hlg := hasMany_any rad (ns k) rcap w hnk
      have HX : Hid (4 < ns k → manyB ns n = true) := fun hl => anyB_at (p := fun i => decide (4 < ns i)) (decide_eq_true hl) h1
      have HL : Hid (manyB ns (k + 1) = decide (4 < ns k)) := by show (manyB ns k || _) = _; rw [HS.out, Bool.false_or]
      clear hre hnum
      generalize ns k = nk at *
      rcases Nat.lt_or_ge 4 nk with h5 | h5
      · rw [decide_eq_true h5] at hlg
        have HX' := Hid.mk' (HX.out h5)
        go_wp2_with fail
        refine hlg.mono ?_
        clear hlg
        rintro e w2 ⟨rfl, hw2⟩
        go_wp2_with fail
        go_ret
        exact ⟨⟨_, rfl, ⟨fun _ => HX'.out, fun _ => hk0⟩, by omega, by omega⟩, rfl⟩
      · rw [decide_eq_false (by omega)] at hlg
        have HL' : Hid (manyB ns (k + 1) = false) := by show _ = _; rw [HL.out]; exact decide_eq_false (by omega)
        go_wp2_with fail
        refine hlg.mono ?_
        clear hlg
        rintro e w2 ⟨rfl, hw2⟩
        go_wp2_with fail
        exact ⟨⟨k + 1, h1, by go_num, HL'⟩, by simp [intOf]; omega⟩
    · obtain rfl : n = k := by omega
      go_wp2_with fail
      go_ret
      exact ⟨⟨_, rfl, ⟨(fun h => by omega), (fun h => by rw [HS.out] at h; cases h)⟩, by omega, by omega⟩, rfl⟩
set_option maxRecDepth 100000 in
theorem ContainsFunc_many (v : Value) (n : Nat) (vs : Nat → Value) (ns : Nat → Nat) (zs : Nat → Nat → Int) (w : World) (h : TabAt w v n vs ns zs) (hn : n ≤ 16) (hns : ∀ i, i < n → ns i ≤ 1000000) :
    Calls Tryd.prog 63 #[v, .func (.func 64) #[] #[]] w fun e w' => e = .returned (.bool (manyB ns n)) ∧ w' = w := by
  have hI := IndexFunc_many v n vs ns zs w h hn hns
  obtain ⟨ad, cap, rfl⟩ := h.form
  clear h
  go_enter Tryd.func63, Tryd.ntmps63
  go_wp2_with fail
  refine hI.mono ?_
  clear hI
  rintro e w2 ⟨⟨x, rfl, hx, hx1, hx2⟩, hw2⟩
  have HX := Hid.mk' hx
  clear hx
  cases hl : manyB ns n with
  | true =>
    have h0 : 0 ≤ x := HX.out.2 hl
    have HL := Hid.mk' hl
    clear hl
    go_wp2_with fail
    go_ret
    exact ⟨by rw [HL.out]; rfl, rfl⟩
  | false =>
    have h0 : decide (0 ≤ x) = false := decide_eq_false fun h => by rw [HX.out.1 h] at hl; cases hl
    have HL := Hid.mk' hl
    clear hl
    go_wp2_with fail
    go_ret
    exact ⟨by rw [HL.out]; rfl, rfl⟩
set_option maxRecDepth 100000 in
set_option maxHeartbeats 1000000 in
theorem IndexFunc_noW (v : Value) (n : Nat) (z : Nat → Int) (w : World) (h : NumsAt w v n z) (hn : n ≤ 16) :
    Calls Tryd.prog 78 #[v, .func (.func 66) #[] #[]] w fun e w' => (∃ x : Int, e = .returned (.int .i64 x) ∧ ((0 ≤ x ↔ noWs z n = true) ∧ -1 ≤ x ∧ x ≤ 16)) ∧ w' = w := by
  obtain ⟨ad, cap, rfl⟩ := h.form
  have HT := Hid.mk' h
  clear h
  go_enter Tryd.func78, Tryd.ntmps78
  go_wp2_with fail
  go_loop [8] (fun t => ∃ k : Nat, k ≤ n ∧ t = .int .i64 k ∧ Hid (noWs z k = false)) (fun t => n - (intOf t).toNat)
  case atStart => exact ⟨0, Nat.zero_le _, rfl, rfl⟩
  case round =>
    obtain ⟨k, hk, rfl, HS⟩ := hrel
    rcases Nat.lt_or_ge k n with h1 | h1
    · have hkI : (k : Int) < (n : Int) := by omega
      have hk0 : (0 : Int) ≤ (k : Int) := by omega
      obtain ⟨b, o, rfl, hc⟩ : ∃ b o, ad = some ⟨b, o, none⟩ ∧ w.cell? ⟨b, o + k, none⟩ = some (.int .i64 (z k)) := by
        rcases HT.out with ⟨_, _, h1', h2'⟩ | ⟨b, o, c, h1', _, h2⟩
        · omega
        · simp only [Value.slice.injEq, true_and] at h1'
          exact ⟨b, o, h1'.1, h2 k h1⟩
      have hlg := isNoW_any (z k) w
      have HX : Hid (noW (z k) = true → noWs z n = true) := fun hl => anyB_at (p := fun i => noW (z i)) hl h1
      have HL : Hid (noWs z (k + 1) = noW (z k)) := by show (noWs z k || _) = _; rw [HS.out, Bool.false_or]
      generalize noW (z k) = B at *
      generalize z k = zk at *
      cases B with
      | true =>
        have HX' := Hid.mk' (HX.out rfl)
        go_wp2_with fail
        refine hlg.mono ?_
        clear hlg
        rintro e w2 ⟨rfl, hw2⟩
        go_wp2_with fail
        go_ret
        exact ⟨⟨_, rfl, ⟨fun _ => HX'.out, fun _ => hk0⟩, by omega, by omega⟩, rfl⟩
      | false =>
        go_wp2_with fail
        refine hlg.mono ?_
        clear hlg
        rintro e w2 ⟨rfl, hw2⟩
        go_wp2_with fail
        exact ⟨⟨k + 1, h1, by go_num, HL⟩, by simp [intOf]; omega⟩
    · obtain rfl : n = k := by omega
      go_wp2_with fail
      go_ret
      exact ⟨⟨_, rfl, ⟨(fun h => by omega), (fun h => by rw [HS.out] at h; cases h)⟩, by omega, by omega⟩, rfl⟩
set_option maxRecDepth 100000 in
theorem ContainsFunc_noW (v : Value) (n : Nat) (z : Nat → Int) (w : World) (h : NumsAt w v n z) (hn : n ≤ 16) :
    Calls Tryd.prog 65 #[v, .func (.func 66) #[] #[]] w fun e w' => e = .returned (.bool (noWs z n)) ∧ w' = w := by
  have hI := IndexFunc_noW v n z w h hn
  obtain ⟨ad, cap, rfl⟩ := h.form
  clear h
  go_enter Tryd.func65, Tryd.ntmps65
  go_wp2_with fail
  refine hI.mono ?_
  clear hI
  rintro e w2 ⟨⟨x, rfl, hx, hx1, hx2⟩, hw2⟩
  have HX := Hid.mk' hx
  clear hx
  cases hl : noWs z n with
  | true =>
    have h0 : 0 ≤ x := HX.out.2 hl
    have HL := Hid.mk' hl
    clear hl
    go_wp2_with fail
    go_ret
    exact ⟨by rw [HL.out]; rfl, rfl⟩
  | false =>
    have h0 : decide (0 ≤ x) = false := decide_eq_false fun h => by rw [HX.out.1 h] at hl; cases hl
    have HL := Hid.mk' hl
    clear hl
    go_wp2_with fail
    go_ret
    exact ⟨by rw [HL.out]; rfl, rfl⟩

set_option maxRecDepth 100000 in
set_option maxHeartbeats 4000000 in
theorem weightsError_any (a : Nat → Addr) (v : Value) (L : Nat) (vs : Nat → Value) (ns : Nat → Nat) (W : Nat → Nat → Int) (sa : Option Addr) (T sc : Nat) (w : World) (hE : Errs w a) (h : TabAt w v L vs ns W) (hL : L ≤ 1000000) (hns : ∀ i, i < L → ns i ≤ 1000000) (hT : T ≤ 1000000) :
    Calls Tryd.prog 48 #[.agg #[v, .slice sa T sc]] w fun e w' => e = .returned (errV a (wtE L ns W T)) ∧ Below w.heap.size w w' := by
  obtain ⟨ad, cap, rfl⟩ := h.form
  obtain ⟨w1, hw1⟩ : ∃ w1, w1 = w.alloc (.cells #[.slice ad L cap, .slice sa T sc] 37) := ⟨_, rfl⟩
  have hb1 : Below w.heap.size w w1 := by rw [hw1]; exact (Below.refl _ _).alloc (Nat.le_refl _) _
  have c0 : w1.cell? ⟨w.heap.size, 0, none⟩ = some (.slice ad L cap) := by rw [hw1]; go_simp
  have c1 : w1.cell? ⟨w.heap.size, 1, none⟩ = some (.slice sa T sc) := by rw [hw1]; go_simp
  have hT1 := h.later hb1
  have cB := (hE.below hb1).c1
  have cS := (hE.below hb1).c2
  have HB1 := Hid.mk' hb1
  have HW1 := Hid.mk' hw1
  have hLI : (L : Int) ≤ 1000000 := by omega
  have hTI : (T : Int) ≤ 1000000 := by omega
  clear h hE hb1 hw1
  by_cases h5 : 5 < L
  · have hI : (5 : Int) < (L : Int) := by omega
    have HR : Hid (wtE L ns W T = 2) := by show _ = _; unfold wtE; rw [if_pos (Or.inl h5)]
    clear hT1 hns h5
    go_enter Tryd.func48, Tryd.ntmps48
    go_upto_region 1 with fail
    rw [← HW1.out]
    go_wp2_with fail
    go_ret
    exact ⟨by rw [HR.out]; rfl, HB1.out⟩
  · have hI : ¬ (5 : Int) < (L : Int) := by omega
    have hI2 : decide ((5 : Int) < (L : Int)) = false := decide_eq_false hI
    have HCF := Hid.mk' (ContainsFunc_many (.slice ad L cap) L vs ns W w1 hT1 (by omega) hns)
    cases hm : manyB ns L with
    | true =>
      have HR : Hid (wtE L ns W T = 2) := by show _ = _; unfold wtE; rw [if_pos (Or.inr hm)]
      rw [hm] at HCF
      clear hT1 hns h5 hm
      go_enter Tryd.func48, Tryd.ntmps48
      go_upto_region 1 with fail
      rw [← HW1.out]
      go_wp2_with fail
      refine HCF.out.mono ?_
      rintro e w2 ⟨rfl, hw2⟩
      rw [hw2]
      clear hw2
      go_wp2_with fail
      go_ret
      exact ⟨by rw [HR.out]; rfl, HB1.out⟩
    | false =>
      rw [hm] at HCF
      by_cases hLT : L = T + 1
      · have hne : ((L : Int) != (T : Int) + 1) = false := by rw [bne_eq_false_iff_eq]; omega
        have HR : Hid (wtE L ns W T = if anyB (fun i => badR (ns 0) (ns i) (W i)) L = true then 3 else 0) := by
          show _ = _
          unfold wtE
          rw [if_neg (by rw [hm]; simp; omega)]
          by_cases hq : anyB (fun i => badR (ns 0) (ns i) (W i)) L = true
          · rw [if_pos (Or.inr hq), if_pos hq]
          · rw [if_neg (fun hc => hc.elim (fun h => h hLT) hq), if_neg hq]
        have HN4 : Hid (∀ i, i < L → ns i ≤ 4) := fun i hi => by
          have := anyB_no (p := fun i => decide (4 < ns i)) hm i hi
          simp only [decide_eq_false_iff_not] at this
          omega
        obtain ⟨b, o, rfl, hrows⟩ : ∃ b o, ad = some ⟨b, o, none⟩ ∧ ∀ i, i < L → w1.cell? ⟨b, o + i, none⟩ = some (vs i) ∧ NumsAt w1 (vs i) (ns i) (W i) := by
          rcases hT1 with ⟨_, _, _, h1⟩ | ⟨b, o, c, h1, _, h2⟩
          · omega
          · simp only [Value.slice.injEq, true_and] at h1
            exact ⟨b, o, h1.1, h2⟩
        have HRO := Hid.mk' hrows
        obtain ⟨ra, rc, hr0⟩ := (hrows 0 (by omega)).2.form
        have d0 := (hrows 0 (by omega)).1
        rw [hr0, Nat.add_zero] at d0
        have hL0 : (0 : Int) < (L : Int) := by omega
        have hn0 := HN4.out 0 (by omega)
        have hn0I : ((ns 0 : Nat) : Int) ≤ 4 := by omega
        have HL0 : Hid (0 < L) := by show _ < _; omega
        clear hT1 hns h5 hm hrows hr0
        clear hLT
        have HBAD : Hid (∀ k, k < L → badR (ns 0) (ns k) (W k) = true → wtE L ns W T = 3) := fun k hk hb => by rw [HR.out, if_pos (anyB_at (p := fun i => badR (ns 0) (ns i) (W i)) hb hk)]
        have HGO : Hid (anyB (fun i => badR (ns 0) (ns i) (W i)) L = false → wtE L ns W T = 0) := fun hq => by rw [HR.out, hq]; rfl
        have HDEF : Hid (∀ k, badR (ns 0) (ns k) (W k) = (decide (ns k = 0) || (decide (ns k ≠ ns 0) || noWs (W k) (ns k)))) := fun k => rfl
        clear HR
        generalize hn0e : ns 0 = n0 at *
        have HN0 := Hid.mk' hn0e
        clear hn0e
        go_enter Tryd.func48, Tryd.ntmps48
        go_upto_region 1 with fail
        rw [← HW1.out]
        go_wp2_with fail
        refine HCF.out.mono ?_
        rintro e w2 ⟨rfl, hw2⟩
        rw [hw2]
        clear hw2 HCF
        go_wp2_with fail
        go_loopw [27] (fun t wr => ∃ k : Nat, k ≤ L ∧ t = .int .i64 k ∧ Hid (anyB (fun i => badR n0 (ns i) (W i)) k = false) ∧ wr = w1) (fun t _ => L - (intOf t).toNat)
        case atStart => exact ⟨0, Nat.zero_le _, rfl, rfl, rfl⟩
        case round =>
          obtain ⟨k, hk, rfl, HS, rfl⟩ := hrel
          rcases Nat.lt_or_ge k L with h1 | h1
          · have hkI : (k : Int) < (L : Int) := by omega
            have hk0 : (0 : Int) ≤ (k : Int) := by omega
            obtain ⟨hc, hnum⟩ := HRO.out k h1
            obtain ⟨rad, rcap, hre⟩ := hnum.form
            rw [hre] at hc hnum
            have hnk := HN4.out k h1
            have hnkI : ((ns k : Nat) : Int) ≤ 4 := by omega
            have HD := Hid.mk' (HDEF.out k)
            have HBD := Hid.mk' (HBAD.out k h1)
            have HNX : Hid (badR n0 (ns k) (W k) = false → anyB (fun i => badR n0 (ns i) (W i)) (k + 1) = false) := fun hq => by rw [anyB, HS.out]; exact hq
            have HCW := Hid.mk' (ContainsFunc_noW _ (ns k) (W k) wr hnum (by omega))
            clear hre hnum
            generalize badR n0 (ns k) (W k) = BB at HD HBD HNX
            generalize noWs (W k) (ns k) = NB at HD HCW
            generalize ns k = nk at *
            by_cases hz : nk = 0
            · have hzd : ((nk : Int) == 0) = true := by rw [beq_iff_eq]; omega
              have HF := Hid.mk' (HBD.out (by rw [HD.out, decide_eq_true hz]; rfl))
              clear hz
              go_wp2_with fail
              go_ret
              exact ⟨by rw [HF.out]; rfl, HB1.out⟩
            · have hzd : ((nk : Int) == 0) = false := by rw [beq_eq_false_iff_ne]; omega
              by_cases hs : nk = n0
              · have hsd : ((nk : Int) != (n0 : Int)) = false := by rw [bne_eq_false_iff_eq]; omega
                have HD2 : Hid (BB = NB) := by show _ = _; rw [HD.out, decide_eq_false hz, decide_eq_false (by simpa using hs)]; rfl
                clear hz hs
                go_wp2_with fail
                refine HCW.out.mono ?_
                rintro e w3 ⟨rfl, hw3⟩
                rw [hw3]
                clear hw3 HCW
                cases NB with
                | true =>
                  have HF := Hid.mk' (HBD.out HD2.out)
                  go_wp2_with fail
                  go_ret
                  exact ⟨by rw [HF.out]; rfl, HB1.out⟩
                | false =>
                  have HF := Hid.mk' (HNX.out HD2.out)
                  go_wp2_with fail
                  exact ⟨⟨k + 1, h1, by go_num, HF, trivial⟩, by simp [intOf]; omega⟩
              · have hsd : ((nk : Int) != (n0 : Int)) = true := by rw [bne_iff_ne]; omega
                have HF := Hid.mk' (HBD.out (by rw [HD.out, decide_eq_false hz, decide_eq_true (by simpa using hs)]; rfl))
                clear hz hs
                go_wp2_with fail
                go_ret
                exact ⟨by rw [HF.out]; rfl, HB1.out⟩
          · obtain rfl : k = L := by omega
            have HF := Hid.mk' (HGO.out HS.out)
            go_wp2_with fail
            go_ret
            exact ⟨by rw [HF.out]; rfl, HB1.out⟩
      · have hne : ((L : Int) != (T : Int) + 1) = true := by rw [bne_iff_ne]; omega
        have HR : Hid (wtE L ns W T = 3) := by show _ = _; unfold wtE; rw [if_neg (by rw [hm]; simp; omega), if_pos (Or.inl hLT)]
        clear hT1 hns h5 hm hLT
        go_enter Tryd.func48, Tryd.ntmps48
        go_upto_region 1 with fail
        rw [← HW1.out]
        go_wp2_with fail
        refine HCF.out.mono ?_
        rintro e w2 ⟨rfl, hw2⟩
        rw [hw2]
        clear hw2
        go_wp2_with fail
        go_ret
        exact ⟨by rw [HR.out]; rfl, HB1.out⟩
end Go.Proofs.YthomgmhmbalnbaaDoor
