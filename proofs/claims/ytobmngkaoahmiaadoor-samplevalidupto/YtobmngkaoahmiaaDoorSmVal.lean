/- Rules: which are right; the program's Valid. -/
import Derived.Test.YtobmngkaoahmiaaDoorTabErr
import Derived.Test.YtobmngkaoahmiaaDoorWeights
import Derived.Laws.EntriesVeiled
namespace Go.Proofs.YtobmngkaoahmiaaDoor
open Go.RowKit

def anyS (p : Nat → Bool) : Nat → Bool
  | 0 => false
  | n + 1 => anyS p n || p n
theorem anyS_at {p : Nat → Bool} : ∀ {n k : Nat}, p k = true → k < n → anyS p n = true
  | 0, k, _, h => by omega
  | n + 1, k, hp, h => by
    rw [anyS, Bool.or_eq_true]
    rcases Nat.lt_or_ge k n with h1 | h1
    · exact Or.inl (anyS_at hp h1)
    · obtain rfl : k = n := by omega
      exact Or.inr hp
theorem anyS_no {p : Nat → Bool} : ∀ {n : Nat}, anyS p n = false → ∀ k, k < n → p k = false
  | 0, _, k, h => by omega
  | n + 1, hp, k, h => by
    rw [anyS, Bool.or_eq_false_iff] at hp
    rcases Nat.lt_or_ge k n with h1 | h1
    · exact anyS_no hp.1 k h1
    · obtain rfl : k = n := by omega
      exact hp.2
theorem anyS_some {p : Nat → Bool} : ∀ {n : Nat}, anyS p n = true → ∃ k, k < n ∧ p k = true
  | 0, h => by cases h
  | n + 1, hp => by
    rw [anyS, Bool.or_eq_true] at hp
    rcases hp with h | h
    · obtain ⟨k, h1, h2⟩ := anyS_some h
      exact ⟨k, by omega, h2⟩
    · exact ⟨n, by omega, h⟩
theorem anyS_none {p : Nat → Bool} {n : Nat} (h : ∀ k, k < n → p k = false) : anyS p n = false := by
  cases hh : anyS p n with
  | false => rfl
  | true => obtain ⟨k, h1, h2⟩ := anyS_some hh; rw [h k h1] at h2; cases h2

/-- A rule with a number that is no state; one that falls. -/
def outB (m : Nat) (z : Nat → Int) (j : Nat) : Bool := decide (z j < 0) || decide ((m : Int) ≤ z j)
def rowBad (m : Nat) (z : Nat → Int) : Bool := anyS (outB m z) m
def dnB (z : Nat → Int) (j : Nat) : Bool := decide (z (j + 1) < z j)
def rowDn (m : Nat) (z : Nat → Int) : Bool := anyS (dnB z) (m - 1)
def ruB (ns : Nat → Nat) (zs : Nat → Nat → Int) (i : Nat) : Bool := decide (ns i ≠ ns 0) || rowBad (ns i) (zs i)
def rlBad (n : Nat) (ns : Nat → Nat) (zs : Nat → Nat → Int) : Bool := anyS (ruB ns zs) n
def dwB (ns : Nat → Nat) (zs : Nat → Nat → Int) (i : Nat) : Bool := rowDn (ns i) (zs i)
def rlDn (n : Nat) (ns : Nat → Nat) (zs : Nat → Nat → Int) : Bool := anyS (dwB ns zs) n
/-- The number of the error of rules. -/
def rlE (n : Nat) (ns : Nat → Nat) (zs : Nat → Nat → Int) : Nat := if 16 < n then 2 else if longB ns n = true then 2 else if n = 0 then 3 else if ns 0 = 0 then 3 else if rlBad n ns zs = true then 3 else if rlDn n ns zs = true then 7 else 0
theorem rlE_le (n : Nat) (ns : Nat → Nat) (zs : Nat → Nat → Int) : rlE n ns zs ≤ 8 := by
  unfold rlE; split; omega; split; omega; split; omega; split; omega; split; omega; split <;> omega
/-- Right rules. -/
structure OkR (n m : Nat) (ns : Nat → Nat) (zs : Nat → Nat → Int) : Prop where
  n0 : 0 < n
  n16 : n ≤ 16
  m0 : 0 < m
  m16 : m ≤ 16
  len : ∀ i, i < n → ns i = m
  inn : ∀ i j, i < n → j < m → 0 ≤ zs i j ∧ zs i j < (m : Int)
  up : ∀ i j, i < n → j + 1 < m → zs i j ≤ zs i (j + 1)
theorem rlE_ok {n : Nat} {ns : Nat → Nat} {zs : Nat → Nat → Int} (h : rlE n ns zs = 0) : OkR n (ns 0) ns zs := by
  unfold rlE at h
  by_cases h1 : 16 < n
  · rw [if_pos h1] at h; cases h
  rw [if_neg h1] at h
  cases hl : longB ns n with
  | true => rw [hl, if_pos rfl] at h; cases h
  | false =>
  rw [hl, if_neg (by simp)] at h
  by_cases h2 : n = 0
  · rw [if_pos h2] at h; cases h
  rw [if_neg h2] at h
  by_cases h3 : ns 0 = 0
  · rw [if_pos h3] at h; cases h
  rw [if_neg h3] at h
  cases h4 : rlBad n ns zs with
  | true => rw [h4, if_pos rfl] at h; cases h
  | false =>
  rw [h4, if_neg (by simp)] at h
  cases h5 : rlDn n ns zs with
  | true => rw [h5, if_pos rfl] at h; cases h
  | false =>
  have hlen : ∀ i, i < n → ns i = ns 0 := fun i hi => by
    have := anyS_no h4 i hi
    rw [ruB, Bool.or_eq_false_iff, decide_eq_false_iff_not] at this
    omega
  refine ⟨by omega, by omega, by omega, not_long hl 0 (by omega), hlen, fun i j hi hj => ?_, fun i j hi hj => ?_⟩
  · have h6 := anyS_no h4 i hi
    rw [ruB, Bool.or_eq_false_iff] at h6
    have h7 := anyS_no h6.2 j (by rw [hlen i hi]; exact hj)
    rw [outB, Bool.or_eq_false_iff, decide_eq_false_iff_not, decide_eq_false_iff_not, hlen i hi] at h7
    omega
  · have h6 := anyS_no h5 i hi
    have h7 := anyS_no h6 j (by rw [hlen i hi]; omega)
    rw [dnB, decide_eq_false_iff_not] at h7
    omega
theorem minTo_le (z : Nat → Int) : ∀ k i, i ≤ k → minTo z k ≤ z i
  | 0, i, h => by obtain rfl : i = 0 := by omega
                  exact Int.le_refl _
  | k + 1, i, h => by
    show (if z (k + 1) < minTo z k then z (k + 1) else minTo z k) ≤ z i
    rcases Nat.lt_or_ge i (k + 1) with h' | h'
    · have := minTo_le z k i (by omega); split <;> omega
    · obtain rfl : i = k + 1 := by omega
      split <;> omega
theorem minTo_memS (z : Nat → Int) : ∀ k, ∃ i, i ≤ k ∧ minTo z k = z i
  | 0 => ⟨0, Nat.le_refl _, rfl⟩
  | k + 1 => by
    obtain ⟨i, hi, he⟩ := minTo_memS z k
    show ∃ i, i ≤ k + 1 ∧ (if z (k + 1) < minTo z k then z (k + 1) else minTo z k) = z i
    split
    · exact ⟨k + 1, Nat.le_refl _, rfl⟩
    · exact ⟨i, by omega, he⟩
theorem rowBad_ends {m : Nat} {z : Nat → Int} (h0 : 0 < m) : rowBad m z = (decide (minTo z (m - 1) < 0) || decide ((m : Int) ≤ maxTo z (m - 1))) := by
  rw [Bool.eq_iff_iff, Bool.or_eq_true, decide_eq_true_eq, decide_eq_true_eq]
  constructor
  · intro h
    obtain ⟨k, hk, h1⟩ := anyS_some h
    rw [outB, Bool.or_eq_true, decide_eq_true_eq, decide_eq_true_eq] at h1
    have h2 := minTo_le z (m - 1) k (by omega)
    have h3 := maxTo_ge z (m - 1) k (by omega)
    omega
  · rintro (h | h)
    · obtain ⟨i, hi, he⟩ := minTo_memS z (m - 1)
      exact anyS_at (k := i) (by rw [outB, decide_eq_true (by omega)]; rfl) (by omega)
    · obtain ⟨i, hi, he⟩ := maxTo_mem z (m - 1)
      exact anyS_at (k := i) (by rw [outB, decide_eq_true (p := (m : Int) ≤ z i) (by omega), Bool.or_true]) (by omega)

theorem hasMany_s (ad : Option Addr) (n cap : Nat) (w : World) (hn : n ≤ 1000000) :
    Calls Tryd.prog 51 #[.slice ad n cap] w fun e w' => e = .returned (.bool (decide (16 < n))) ∧ w' = w := by
  by_cases h : 16 < n
  · have hI : (16 : Int) < (n : Int) := by omega
    rw [decide_eq_true h]
    go_enter Tryd.func51, Tryd.ntmps51
    go_wp2_with fail
    go_ret
    exact ⟨rfl, rfl⟩
  · have hI : ¬ (16 : Int) < (n : Int) := by omega
    rw [decide_eq_false h]
    go_enter Tryd.func51, Tryd.ntmps51
    go_wp2_with fail
    go_ret
    exact ⟨rfl, rfl⟩
set_option maxRecDepth 100000 in
set_option maxHeartbeats 1000000 in
theorem IndexFunc_rules (v : Value) (n : Nat) (vs : Nat → Value) (ns : Nat → Nat) (zs : Nat → Nat → Int) (w : World) (h : TabAt w v n vs ns zs) (hn : n ≤ 16) (hns : ∀ i, i < n → ns i ≤ 1000000) :
    Calls Tryd.prog 78 #[v, .func (.func 51) #[] #[]] w fun e w' => (∃ x : Int, e = .returned (.int .i64 x) ∧ ((0 ≤ x ↔ longB ns n = true) ∧ -1 ≤ x ∧ x ≤ 16)) ∧ w' = w := by
  obtain ⟨ad, cap, rfl⟩ := h.form
  have HT := Hid.mk' h
  have HNS := Hid.mk' hns
  clear h hns
  go_enter Tryd.func78, Tryd.ntmps78
  go_wp2_with fail
  go_loop [8] (fun t => ∃ k : Nat, k ≤ n ∧ t = .int .i64 k ∧ Hid (longB ns k = false)) (fun t => n - (intOf t).toNat)
  case atStart => exact ⟨0, Nat.zero_le _, rfl, rfl⟩
  case round =>
    obtain ⟨k, hk, rfl, HS⟩ := hrel
    rcases Nat.lt_or_ge k n with h1 | h1
    · have hkI : (k : Int) < (n : Int) := by omega
      have hk0 : (0 : Int) ≤ (k : Int) := by omega
      obtain ⟨b, o, rfl, hc, hnum⟩ : ∃ b o, ad = some ⟨b, o, none⟩ ∧ w.cell? ⟨b, o + k, none⟩ = some (vs k) ∧ NumsAt w (vs k) (ns k) (zs k) := by
        rcases HT.out with ⟨_, _, h1', h2'⟩ | ⟨b, o, c, h1', _, h2⟩
        · omega
        · simp only [Value.slice.injEq, true_and] at h1'
          exact ⟨b, o, h1'.1, h2 k h1⟩
      obtain ⟨rad, rcap, hre⟩ := hnum.form
      rw [hre] at hc
      have hnk := HNS.out k h1
      have hlg := hasMany_s rad (ns k) rcap w hnk
      have HX : Hid (16 < ns k → longB ns n = true) := fun hl => longB_mono h1 hl
      have HL : Hid (longB ns (k + 1) = decide (16 < ns k)) := by show (longB ns k || _) = _; rw [HS.out, Bool.false_or]
      clear hre hnum
      generalize ns k = nk at *
      rcases Nat.lt_or_ge 16 nk with h5 | h5
      · rw [decide_eq_true h5] at hlg
        have HX' := Hid.mk' (HX.out h5)
        go_wp2_with fail
        refine hlg.mono ?_
        clear hlg
        rintro e w2 ⟨rfl, hw2⟩
        go_wp2_with fail
        go_ret
        exact ⟨⟨_, rfl, ⟨fun _ => HX'.out, fun _ => hk0⟩, by omega, by omega⟩, rfl⟩
      · rw [decide_eq_false (by omega)] at hlg
        have HL' : Hid (longB ns (k + 1) = false) := by show _ = _; rw [HL.out]; exact decide_eq_false (by omega)
        go_wp2_with fail
        refine hlg.mono ?_
        clear hlg
        rintro e w2 ⟨rfl, hw2⟩
        go_wp2_with fail
        exact ⟨⟨k + 1, h1, by go_num, HL'⟩, by simp [intOf]; omega⟩
    · obtain rfl : n = k := by omega
      go_wp2_with fail
      go_ret
      exact ⟨⟨_, rfl, ⟨(fun h => by omega), (fun h => by rw [HS.out] at h; cases h)⟩, by omega, by omega⟩, rfl⟩
set_option maxRecDepth 100000 in
theorem ContainsFunc_rules (v : Value) (n : Nat) (vs : Nat → Value) (ns : Nat → Nat) (zs : Nat → Nat → Int) (w : World) (h : TabAt w v n vs ns zs) (hn : n ≤ 16) (hns : ∀ i, i < n → ns i ≤ 1000000) :
    Calls Tryd.prog 50 #[v, .func (.func 51) #[] #[]] w fun e w' => e = .returned (.bool (longB ns n)) ∧ w' = w := by
  have hI := IndexFunc_rules v n vs ns zs w h hn hns
  obtain ⟨ad, cap, rfl⟩ := h.form
  clear h
  go_enter Tryd.func50, Tryd.ntmps50
  go_wp2_with fail
  refine hI.mono ?_
  clear hI
  rintro e w2 ⟨⟨x, rfl, hx, hx1, hx2⟩, hw2⟩
  have HX := Hid.mk' hx
  clear hx
  cases hl : longB ns n with
  | true =>
    have h0 : 0 ≤ x := HX.out.2 hl
    have HL := Hid.mk' hl
    clear hl
    go_wp2_with fail
    go_ret
    exact ⟨by rw [HL.out]; rfl, rfl⟩
  | false =>
    have h0 : decide (0 ≤ x) = false := decide_eq_false fun h => by rw [HX.out.1 h] at hl; cases hl
    have HL := Hid.mk' hl
    clear hl
    go_wp2_with fail
    go_ret
    exact ⟨by rw [HL.out]; rfl, rfl⟩
theorem isNaN_s (x : Int) (w : World) : Calls Tryd.prog 102 #[.int .i64 x] w fun e w' => e = .returned (.bool false) ∧ w' = w := by
  have hx : (x != x) = false := by simp
  go_enter Tryd.func102, Tryd.ntmps102
  go_wp2_with fail
  go_ret
  exact ⟨rfl, rfl⟩
set_option maxRecDepth 100000 in
theorem less_s (x y : Int) (w : World) : Calls Tryd.prog 79 #[.int .i64 x, .int .i64 y] w fun e w' => e = .returned (.bool (decide (x < y))) ∧ w' = w := by
  have hN := isNaN_s x w
  cases hd : decide (x < y) with
  | true =>
    have hI : x < y := of_decide_eq_true hd
    go_enter Tryd.func79, Tryd.ntmps79
    go_wp2_with fail
    refine hN.mono ?_
    rintro e w2 ⟨rfl, hw2⟩
    rw [hw2]
    clear hw2 hN
    go_wp2_with fail
    go_ret
    exact ⟨rfl, rfl⟩
  | false =>
    have hI : ¬ x < y := of_decide_eq_false hd
    go_enter Tryd.func79, Tryd.ntmps79
    go_wp2_with fail
    refine hN.mono ?_
    rintro e w2 ⟨rfl, hw2⟩
    rw [hw2]
    clear hw2 hN
    go_wp2_with fail
    go_ret
    exact ⟨rfl, rfl⟩
set_option maxRecDepth 100000 in
set_option maxHeartbeats 1000000 in
theorem isSorted_any (b o cap n : Nat) (z : Nat → Int) (w : World) (h : RowAt w b o n z) (h0 : 0 < n) (hn : n ≤ 16) :
    Calls Tryd.prog 54 #[.slice (some ⟨b, o, none⟩) n cap] w fun e w' => e = .returned (.bool (!rowDn n z)) ∧ Below w.heap.size w w' := by
  have HR := Hid.mk' (fun (W : World) (hb : Below w.heap.size w W) => h.later hb)
  have HLS := Hid.mk' (fun x y W => less_s x y W)
  clear h
  go_enter Tryd.func54, Tryd.ntmps54
  go_wp2_with fail
  go_loopw [3] (fun t wr => ∃ i : Nat, i < n ∧ t = .int .i64 i ∧ Hid (∀ j, i ≤ j → j < n - 1 → dnB z j = false) ∧ Hid (Below w.heap.size w wr)) (fun t _ => (intOf t).toNat)
  case atStart => exact ⟨n - 1, by omega, by go_num, fun j h1 h2 => by omega, Below.refl _ _⟩
  case round =>
    obtain ⟨i, hi, rfl, HS, HB⟩ := hrel
    rcases Nat.eq_zero_or_pos i with h1 | h1
    · subst h1
      have HV : Hid (rowDn n z = false) := anyS_none fun k hk => HS.out k (Nat.zero_le _) hk
      go_wp2_with fail
      go_ret
      exact ⟨by rw [HV.out]; rfl, HB.out⟩
    · obtain ⟨k, rfl⟩ : ∃ k, i = k + 1 := ⟨i - 1, by omega⟩
      have c1 := HR.out wr HB.out (k + 1) hi
      have c0 := HR.out wr HB.out k (by omega)
      have d1 := HR.out wr.drew HB.out.drew (k + 1) hi
      have d0 := HR.out wr.drew HB.out.drew k (by omega)
      have hkn : (k : Int) + 1 < (n : Int) := by omega
      have hk0 : (0 : Int) ≤ (k : Int) := by omega
      have hls := HLS.out (z (k + 1)) (z k)
      have HDN : Hid (dnB z k = decide (z (k + 1) < z k)) := rfl
      have HAT : Hid (dnB z k = true → rowDn n z = true) := fun hh => anyS_at hh (by omega)
      have HGO : Hid (dnB z k = false → ∀ j, k ≤ j → j < n - 1 → dnB z j = false) := fun hh j h2 h3 => by
        rcases Nat.lt_or_ge k j with h4 | h4
        · exact HS.out j h4 h3
        · obtain rfl : j = k := by omega
          exact hh
      generalize z (k + 1) = y1 at *
      generalize z k = y0 at *
      cases hd : decide (y1 < y0) with
      | true =>
        rw [hd] at hls
        have HV := Hid.mk' (HAT.out (by rw [HDN.out, hd]))
        clear hd
        go_wp2_with fail
        go_quiet ((go_at_call 79; exact (hls _).mono fun _ _ h => ⟨h.1, _, h.2⟩))
        go_wp2_with fail
        go_ret
        exact ⟨by rw [HV.out]; rfl, below_drewN HB.out _⟩
      | false =>
        rw [hd] at hls
        have HV := Hid.mk' (HGO.out (by rw [HDN.out, hd]))
        clear hd
        go_wp2_with fail
        go_quiet ((go_at_call 79; exact (hls _).mono fun _ _ h => ⟨h.1, _, h.2⟩))
        go_wp2_with fail
        exact ⟨⟨k, by omega, by go_num, HV.out, below_drewN HB.out _⟩, by simp [intOf] <;> omega⟩
end Go.Proofs.YtobmngkaoahmiaaDoor
