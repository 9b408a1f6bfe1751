/- Joining: secret.Join, hasTwice, partAtZero, inverse; slices.Contains. -/
import Derived.Test.YtgklaadkglbclaaDoorSkJm
import Derived.Test.YtgklaadkglbclaaDoorSkSh
namespace Go.Proofs.YtgklaadkglbclaaDoor
open Go.RowKit

set_option maxRecDepth 100000 in
set_option maxHeartbeats 1000000 in
theorem Index_row (b o cap n : Nat) (z : Nat → Int) (v : Int) (w : World) (h : RowAt w b o n z) (hn : n ≤ 1000000) :
    Calls Tryd.prog 59 #[.slice (some ⟨b, o, none⟩) n cap, .int .i64 v] w fun e w' => (∃ x : Int, e = .returned (.int .i64 x) ∧ ((0 ≤ x ↔ inB z n v = true) ∧ -1 ≤ x ∧ x ≤ 1000000)) ∧ w' = w := by
  have HR := Hid.mk' h
  clear h
  go_enter Tryd.func59, Tryd.ntmps59
  go_wp2_with fail
  go_loop [8] (fun t => ∃ k : Nat, k ≤ n ∧ t = .int .i64 k ∧ Hid (inB z k v = false)) (fun t => n - (intOf t).toNat)
  case atStart => exact ⟨0, Nat.zero_le _, rfl, rfl⟩
  case round =>
    obtain ⟨k, hk, rfl, HS⟩ := hrel
    rcases Nat.lt_or_ge k n with h1 | h1
    · have hc := HR.out k h1
      have hkI : (k : Int) < (n : Int) := by omega
      by_cases e : z k = v
      · have HX : Hid (inB z n v = true) := (inB_iff z v n).2 ⟨k, h1, e⟩
        have hb : (v == z k) = true := by rw [beq_iff_eq]; exact e.symm
        generalize z k = y at *
        clear e
        go_wp2_with fail
        go_ret
        exact ⟨⟨_, rfl, ⟨fun _ => HX.out, fun _ => by omega⟩, by omega, by omega⟩, rfl⟩
      · have HN : Hid (inB z (k + 1) v = false) := by show (inB z k v || decide (z k = v)) = false; rw [HS.out, decide_eq_false e]; rfl
        have hb : (v == z k) = false := by rw [beq_eq_false_iff_ne]; exact fun h => e h.symm
        generalize z k = y at *
        clear e
        go_wp2_with fail
        exact ⟨⟨k + 1, h1, by go_num, HN⟩, by simp [intOf]; omega⟩
    · obtain rfl : n = k := by omega
      go_wp2_with fail
      go_ret
      exact ⟨⟨_, rfl, ⟨(fun h => by omega), (fun h => by rw [HS.out] at h; cases h)⟩, by omega, by omega⟩, rfl⟩
set_option maxRecDepth 100000 in
theorem Contains_row (b o cap n : Nat) (z : Nat → Int) (v : Int) (w : World) (h : RowAt w b o n z) (hn : n ≤ 1000000) :
    Calls Tryd.prog 49 #[.slice (some ⟨b, o, none⟩) n cap, .int .i64 v] w fun e w' => e = .returned (.bool (inB z n v)) ∧ w' = w := by
  have hI := Index_row b o cap n z v w h hn
  clear h
  go_enter Tryd.func49, Tryd.ntmps49
  go_wp2_with fail
  refine hI.mono ?_
  clear hI
  rintro e w2 ⟨⟨x, rfl, hx, hx1, hx2⟩, hw2⟩
  rw [hw2]
  clear hw2 w2
  have HX := Hid.mk' hx
  clear hx
  cases hl : inB z n v with
  | true =>
    have h0 : 0 ≤ x := HX.out.2 hl
    have HL := Hid.mk' hl
    clear hl HX
    go_wp2_with fail
    go_ret
    exact ⟨by rw [HL.out]; rfl, rfl⟩
  | false =>
    have h0 : decide (0 ≤ x) = false := decide_eq_false fun h => by rw [HX.out.1 h] at hl; cases hl
    have HL := Hid.mk' hl
    clear hl HX
    go_wp2_with fail
    go_ret
    exact ⟨by rw [HL.out]; rfl, rfl⟩
/-- Is one of the first n there twice? -/
def twiB (z : Nat → Int) : Nat → Bool
  | 0 => false
  | k + 1 => twiB z k || inB z k (z k)
theorem twiB_yes {z : Nat → Int} {k n : Nat} (h : inB z k (z k) = true) (hk : k < n) : twiB z n = true := by
  induction n with
  | zero => omega
  | succ n ih =>
    rcases Nat.lt_or_ge k n with h1 | h1
    · simp [twiB, ih h1]
    · obtain rfl : k = n := by omega
      simp [twiB, h]
theorem twiB_no {z : Nat → Int} {n : Nat} (h : twiB z n = false) {i j : Nat} (hij : i < j) (hj : j < n) : z i ≠ z j := fun e => by
  rw [twiB_yes ((inB_iff z (z j) j).2 ⟨i, hij, e⟩) hj] at h; cases h
set_option maxRecDepth 100000 in
set_option maxHeartbeats 1000000 in
theorem hasTwice_row (b o cap n : Nat) (z : Nat → Int) (w : World) (h : RowAt w b o n z) (hn : n ≤ 1000000) (hc : n ≤ cap) :
    Calls Tryd.prog 38 #[.slice (some ⟨b, o, none⟩) n cap] w fun e w' => e = .returned (.bool (twiB z n)) ∧ w' = w := by
  have HR := Hid.mk' h
  have HCT := Hid.mk' (fun (k : Nat) (v : Int) (hk : k ≤ n) => Contains_row b o cap k z v w (fun i hi => h i (by omega)) (by omega))
  have hcI : (n : Int) ≤ (cap : Int) := by omega
  clear h
  go_enter Tryd.func38, Tryd.ntmps38
  go_wp2_with fail
  go_loop [7] (fun t => ∃ k : Nat, k ≤ n ∧ t = .int .i64 k ∧ Hid (twiB z k = false)) (fun t => n - (intOf t).toNat)
  case atStart => exact ⟨0, Nat.zero_le _, rfl, rfl⟩
  case round =>
    obtain ⟨k, hk, rfl, HS⟩ := hrel
    rcases Nat.lt_or_ge k n with h1 | h1
    · have hck := HR.out k h1
      have hkI : (k : Int) < (n : Int) := by omega
      have hkc : (k : Int) ≤ (cap : Int) := by omega
      have hC := HCT.out k (z k) hk
      cases hin : inB z k (z k) with
      | true =>
        have HX := Hid.mk' (twiB_yes hin h1)
        rw [hin] at hC
        clear hin
        generalize z k = y at *
        go_wp2_with fail
        refine hC.mono ?_
        rintro e w2 ⟨rfl, hw2⟩
        rw [hw2]
        clear hw2 hC w2
        go_wp2_with fail
        go_ret
        exact ⟨by rw [HX.out]; rfl, rfl⟩
      | false =>
        have HN : Hid (twiB z (k + 1) = false) := by show (twiB z k || inB z k (z k)) = false; rw [HS.out, hin]; rfl
        rw [hin] at hC
        clear hin
        generalize z k = y at *
        go_wp2_with fail
        refine hC.mono ?_
        rintro e w2 ⟨rfl, hw2⟩
        rw [hw2]
        clear hw2 hC w2
        go_wp2_with fail
        exact ⟨⟨k + 1, h1, by go_num, HN⟩, by simp [intOf]; omega⟩
    · obtain rfl : n = k := by omega
      go_wp2_with fail
      go_ret
      exact ⟨by rw [HS.out]; rfl, rfl⟩
set_option maxRecDepth 100000 in
set_option maxHeartbeats 1000000 in
theorem inverse_any (p n : Nat) (w : World) (hp2 : 2 ≤ p) (hp : p ≤ 997) (hn : n < p) :
    Calls Tryd.prog 50 #[.int .i64 (p : Int), .int .i64 (n : Int)] w fun e w' => e = .returned (.int .i64 (ivN p n : Int)) ∧ w' = w := by
  have hpz : ¬ (p : Int) = 0 := by omega
  have hp0 : ¬ p = 0 := by omega
  have hpI : (p : Int) ≤ 997 := by omega
  have hpJ : (2 : Int) ≤ (p : Int) := by omega
  have HI : Hid (ivN p n = invK p n (p - 2)) := (invK_pow hp2 (p - 2)).symm
  go_enter Tryd.func50, Tryd.ntmps50
  go_wp2_with fail
  go_loop [5, 8] (fun y t => ∃ k : Nat, k ≤ p - 2 ∧ t = .int .i64 k ∧ y = .int .i64 (invK p n k : Int)) (fun _ t => p - 2 - (intOf t).toNat)
  case atStart => exact ⟨0, Nat.zero_le _, rfl, rfl⟩
  case round =>
    obtain ⟨k, hk, rfl, rfl⟩ := hrel
    have hl : invK p n k < p := by rw [invK_pow hp2]; exact Nat.mod_lt _ (by omega)
    rcases Nat.lt_or_ge k (p - 2) with h1 | h1
    · have hkI : (k : Int) < (p : Int) - 2 := by omega
      have HN : Hid (invK p n (k + 1) = invK p n k * n % p) := rfl
      generalize invK p n k = y at *
      have m1 : y * n ≤ 997 * 997 := Nat.mul_le_mul (by omega) (by omega)
      go_wp2_with fail
      exact ⟨⟨k + 1, h1, by go_num, by rw [HN.out]; simp⟩, by simp [intOf]; omega⟩
    · have hke : k = p - 2 := by omega
      have hkI : ¬ (k : Int) < (p : Int) - 2 := by omega
      have HK : Hid (ivN p n = invK p n k) := by show _ = _; rw [HI.out, hke]
      clear hke
      go_wp2_with fail
      go_ret
      exact ⟨by rw [HK.out]; rfl, rfl⟩
set_option maxRecDepth 100000 in
set_option maxHeartbeats 2000000 in
theorem partAtZero_any (p m i b o cap : Nat) (A : Nat → Nat) (w : World) (hr : RowAt w b o m (fun i => (A i : Int))) (hA : ∀ i, A i < p) (hp2 : 2 ≤ p) (hp : p ≤ 997) (hi : i < m) (hm : m ≤ 12) :
    Calls Tryd.prog 39 #[.int .i64 (p : Int), .slice (some ⟨b, o, none⟩) m cap, .int .i64 (i : Int)] w fun e w' => e = .returned (.int .i64 (partN p m A i : Int)) ∧ w' = w := by
  have hpz : ¬ (p : Int) = 0 := by omega
  have hp0 : ¬ p = 0 := by omega
  have hpI : (p : Int) ≤ 997 := by omega
  have hiI : (i : Int) < (m : Int) := by omega
  have hi0 : (0 : Int) ≤ (i : Int) := by omega
  have hmI : (m : Int) ≤ 12 := by omega
  have HR := Hid.mk' hr
  have HA := Hid.mk' hA
  have hci : w.cell? ⟨b, o + i, none⟩ = some (.int .i64 (A i : Int)) := hr i hi
  have hai := hA i
  have HIV := Hid.mk' (inverse_any p (dnN p A i m) w hp2 hp (dnN_lt hp2 m))
  clear hr hA
  go_enter Tryd.func39, Tryd.ntmps39
  go_wp2_with fail
  go_loop [7, 8, 13] (fun u d t => ∃ k : Nat, k ≤ m ∧ t = .int .i64 k ∧ u = .int .i64 (upN p A i k : Int) ∧ d = .int .i64 (dnN p A i k : Int)) (fun _ _ t => m - (intOf t).toNat)
  case atStart => exact ⟨0, Nat.zero_le _, rfl, rfl, rfl⟩
  case round =>
    obtain ⟨k, hk, rfl, rfl, rfl⟩ := hrel
    have hu := upN_lt (A := A) (i := i) hp2 k
    have hd := dnN_lt (A := A) (i := i) hp2 k
    rcases Nat.lt_or_ge k m with h1 | h1
    · have hck : w.cell? ⟨b, o + k, none⟩ = some (.int .i64 (A k : Int)) := HR.out k h1
      have hak := HA.out k
      have hkI : (k : Int) < (m : Int) := by omega
      have HU : Hid (upN p A i (k + 1) = if k = i then upN p A i k else upN p A i k * A k % p) := rfl
      have HD : Hid (dnN p A i (k + 1) = if k = i then dnN p A i k else dnN p A i k * (A k + p - A i) % p) := rfl
      by_cases e : k = i
      · rw [if_pos e] at HU HD
        have hb : ((k : Int) != (i : Int)) = false := by rw [e]; simp
        generalize upN p A i k = u at *
        generalize dnN p A i k = d at *
        clear e
        go_wp2_with fail
        exact ⟨⟨k + 1, h1, by go_num, by rw [HU.out], by rw [HD.out]⟩, by simp [intOf]; omega⟩
      · rw [if_neg e] at HU HD
        have hb : ((k : Int) != (i : Int)) = true := by rw [bne_iff_ne]; omega
        generalize upN p A i k = u at *
        generalize dnN p A i k = d at *
        generalize A k = ak at *
        generalize A i = ai at *
        obtain ⟨g, hg⟩ : ∃ g : Nat, g = ak + p - ai := ⟨_, rfl⟩
        rw [← hg] at HD
        have hgI : (ak : Int) - (ai : Int) + (p : Int) = (g : Int) := by omega
        have hg2 : g ≤ 1994 := by omega
        have m1 : u * ak ≤ 997 * 997 := Nat.mul_le_mul (by omega) (by omega)
        have m2 : d * g ≤ 997 * 1994 := Nat.mul_le_mul (by omega) hg2
        clear e hg
        go_wp2_with fail
        exact ⟨⟨k + 1, h1, by go_num, by rw [HU.out]; simp, by rw [HD.out]; simp⟩, by simp [intOf]; omega⟩
    · obtain rfl : m = k := by omega
      have HP : Hid (partN p m A i = upN p A i m * ivN p (dnN p A i m) % p) := rfl
      have hv : ivN p (dnN p A i m) < p := Nat.mod_lt _ (by omega)
      generalize ivN p (dnN p A i m) = v at *
      generalize upN p A i m = u at *
      generalize dnN p A i m = d at *
      have m1 : u * v ≤ 997 * 997 := Nat.mul_le_mul (by omega) (by omega)
      go_wp2_with fail
      refine HIV.out.mono ?_
      rintro e w2 ⟨rfl, hw2⟩
      rw [hw2]
      clear hw2 w2
      go_wp2_with fail
      go_ret
      exact ⟨by rw [HP.out]; simp, rfl⟩
end Go.Proofs.YtgklaadkglbclaaDoor
