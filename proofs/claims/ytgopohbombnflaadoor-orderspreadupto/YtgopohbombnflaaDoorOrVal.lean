/- Which numbers are right: the program's and the document's look. -/
import Derived.Test.YtgopohbombnflaaDoorWeights
namespace Go.Proofs.YtgopohbombnflaaDoor
open Go.RowKit

/-- Is it no number? Is one of n none? -/
def noB (x : Int) : Bool := decide (x < 0) || decide (4096 < x)
def noN (z : Nat → Int) : Nat → Bool
  | 0 => false
  | n + 1 => noN z n || noB (z n)
theorem noB_no {x : Int} (h : noB x = false) : 0 ≤ x ∧ x ≤ 4096 := by
  simp [noB] at h; exact h
theorem noB_yes {x : Int} (h : noB x = true) : x < 0 ∨ 4096 < x := by
  simp [noB] at h; exact h
theorem noN_at {z : Nat → Int} : ∀ {n k : Nat}, noB (z k) = true → k < n → noN z n = true
  | 0, k, _, h => by omega
  | n + 1, k, hk, h => by
    show (noN z n || _) = true
    rcases Nat.lt_or_ge k n with h' | h'
    · rw [noN_at hk h', Bool.true_or]
    · obtain rfl : k = n := by omega
      rw [hk, Bool.or_true]
theorem noN_none {z : Nat → Int} : ∀ {n : Nat}, noN z n = false → ∀ k, k < n → 0 ≤ z k ∧ z k ≤ 4096
  | 0, _, k, h => by omega
  | n + 1, hn, k, h => by
    have h1 : (noN z n || noB (z n)) = false := hn
    rw [Bool.or_eq_false_iff] at h1
    rcases Nat.lt_or_ge k n with h' | h'
    · exact noN_none h1.1 k h'
    · obtain rfl : k = n := by omega
      exact noB_no h1.2
theorem noN_of {z : Nat → Int} : ∀ {n : Nat}, (∀ k, k < n → 0 ≤ z k ∧ z k ≤ 4096) → noN z n = false
  | 0, _ => rfl
  | n + 1, h => by
    show (noN z n || noB (z n)) = false
    rw [noN_of (fun k hk => h k (by omega))]
    have := h n (by omega)
    simp [noB]; omega
theorem sum_right {z : Nat → Int} : ∀ {n : Nat}, (∀ k, k < n → 0 ≤ z k ∧ z k ≤ 4096) → 0 ≤ sumN z n ∧ sumN z n ≤ (n : Int) * 4096
  | 0, _ => by simp [sumN]
  | n + 1, h => by
    have h1 := sum_right (z := z) (n := n) (fun k hk => h k (by omega))
    have h2 := h n (by omega)
    show 0 ≤ sumN z n + z n ∧ sumN z n + z n ≤ _
    rw [show ((n + 1 : Nat) : Int) * 4096 = (n : Int) * 4096 + 4096 by omega]
    omega

theorem isNoNumber_any (x : Int) (w : World) : Calls Tryd.prog 36 #[.int .i64 x] w fun e w' => e = .returned (.bool (noB x)) ∧ w' = w := by
  by_cases h1 : x < 0
  · rw [show noB x = true from by simp [noB, h1]]
    go_enter Tryd.func36, Tryd.ntmps36
    go_wp2_with fail
    go_ret
    exact ⟨rfl, rfl⟩
  · by_cases h2 : 4096 < x
    · rw [show noB x = true from by simp [noB, h2]]
      go_enter Tryd.func36, Tryd.ntmps36
      go_wp2_with fail
      go_ret
      exact ⟨rfl, rfl⟩
    · rw [show noB x = false from by simp [noB]; omega]
      go_enter Tryd.func36, Tryd.ntmps36
      go_wp2_with fail
      go_ret
      exact ⟨rfl, rfl⟩

set_option maxRecDepth 100000 in
set_option maxHeartbeats 1000000 in
theorem IndexFunc_num (v : Value) (n : Nat) (z : Nat → Int) (w : World) (h : NumsAt w v n z) (hn : n ≤ 1000000) :
    Calls Tryd.prog 50 #[v, .func (.func 36) #[] #[]] w fun e w' => (∃ x : Int, e = .returned (.int .i64 x) ∧ ((0 ≤ x ↔ noN z n = true) ∧ -1 ≤ x ∧ x ≤ 1000000)) ∧ w' = w := by
  obtain ⟨ad, cap, rfl⟩ := h.form
  have HT := Hid.mk' h
  clear h
  go_enter Tryd.func50, Tryd.ntmps50
  go_wp2_with fail
  go_loop [8] (fun t => ∃ k : Nat, k ≤ n ∧ t = .int .i64 k ∧ Hid (noN z k = false)) (fun t => n - (intOf t).toNat)
  case atStart => exact ⟨0, Nat.zero_le _, rfl, rfl⟩
  case round =>
    obtain ⟨k, hk, rfl, HS⟩ := hrel
    rcases Nat.lt_or_ge k n with h1 | h1
    · have hkI : (k : Int) < (n : Int) := by omega
      have hk0 : (0 : Int) ≤ (k : Int) := by omega
      obtain ⟨b, o, rfl, hc⟩ : ∃ b o, ad = some ⟨b, o, none⟩ ∧ w.cell? ⟨b, o + k, none⟩ = some (.int .i64 (z k)) := by
        rcases HT.out with ⟨_, _, h1', h2'⟩ | ⟨b, o, c, h1', _, h2⟩
        · omega
        · simp only [Value.slice.injEq, true_and] at h1'
          exact ⟨b, o, h1'.1, h2 k h1⟩
      have hlg := isNoNumber_any (z k) w
      have HX : Hid (noB (z k) = true → noN z n = true) := fun hl => noN_at hl h1
      have HL : Hid (noN z (k + 1) = noB (z k)) := by show (noN z k || _) = _; rw [HS.out, Bool.false_or]
      generalize z k = zk at *
      cases h5 : noB zk with
      | true =>
        rw [h5] at hlg
        have HX' := Hid.mk' (HX.out h5)
        clear h5
        go_wp2_with fail
        refine hlg.mono ?_
        clear hlg
        rintro e w2 ⟨rfl, hw2⟩
        go_wp2_with fail
        go_ret
        exact ⟨⟨_, rfl, ⟨fun _ => HX'.out, fun _ => hk0⟩, by omega, by omega⟩, rfl⟩
      | false =>
        rw [h5] at hlg
        have HL' : Hid (noN z (k + 1) = false) := by show _ = _; rw [HL.out]; exact h5
        clear h5
        go_wp2_with fail
        refine hlg.mono ?_
        clear hlg
        rintro e w2 ⟨rfl, hw2⟩
        go_wp2_with fail
        exact ⟨⟨k + 1, h1, by go_num, HL'⟩, by simp [intOf]; omega⟩
    · obtain rfl : n = k := by omega
      go_wp2_with fail
      go_ret
      exact ⟨⟨_, rfl, ⟨(fun h => by omega), (fun h => by rw [HS.out] at h; cases h)⟩, by omega, by omega⟩, rfl⟩
set_option maxRecDepth 100000 in
theorem ContainsFunc_num (v : Value) (n : Nat) (z : Nat → Int) (w : World) (h : NumsAt w v n z) (hn : n ≤ 1000000) :
    Calls Tryd.prog 35 #[v, .func (.func 36) #[] #[]] w fun e w' => e = .returned (.bool (noN z n)) ∧ w' = w := by
  have hI := IndexFunc_num v n z w h hn
  obtain ⟨ad, cap, rfl⟩ := h.form
  clear h
  go_enter Tryd.func35, Tryd.ntmps35
  go_wp2_with fail
  refine hI.mono ?_
  clear hI
  rintro e w2 ⟨⟨x, rfl, hx, hx1, hx2⟩, hw2⟩
  have HX := Hid.mk' hx
  clear hx
  cases hl : noN z n with
  | true =>
    have h0 : 0 ≤ x := HX.out.2 hl
    have HL := Hid.mk' hl
    clear hl
    go_wp2_with fail
    go_ret
    exact ⟨by rw [HL.out]; rfl, rfl⟩
  | false =>
    have h0 : decide (0 ≤ x) = false := decide_eq_false fun h => by rw [HX.out.1 h] at hl; cases hl
    have HL := Hid.mk' hl
    clear hl
    go_wp2_with fail
    go_ret
    exact ⟨by rw [HL.out]; rfl, rfl⟩

set_option maxRecDepth 100000 in
set_option maxHeartbeats 1000000 in
/-- The document's look. -/
theorem Numbers_any (v : Value) (n : Nat) (z : Nat → Int) (w : World) (h : NumsAt w v n z) (hn : n ≤ 1000000) :
    Calls Tryd.prog 27 #[v] w fun e w' => e = .returned (.bool (!noN z n)) ∧ w' = w := by
  obtain ⟨ad, cap, rfl⟩ := h.form
  have HT := Hid.mk' h
  clear h
  go_enter Tryd.func27, Tryd.ntmps27
  go_wp2_with fail
  go_loop [3] (fun t => ∃ k : Nat, k ≤ n ∧ t = .int .i64 k ∧ Hid (noN z k = false)) (fun t => n - (intOf t).toNat)
  case atStart => exact ⟨0, Nat.zero_le _, rfl, rfl⟩
  case round =>
    obtain ⟨k, hk, rfl, HS⟩ := hrel
    rcases Nat.lt_or_ge k n with h1 | h1
    · have hkI : (k : Int) < (n : Int) := by omega
      have hk0 : (0 : Int) ≤ (k : Int) := by omega
      obtain ⟨b, o, rfl, hc⟩ : ∃ b o, ad = some ⟨b, o, none⟩ ∧ w.cell? ⟨b, o + k, none⟩ = some (.int .i64 (z k)) := by
        rcases HT.out with ⟨_, _, h1', h2'⟩ | ⟨b, o, c, h1', _, h2⟩
        · omega
        · simp only [Value.slice.injEq, true_and] at h1'
          exact ⟨b, o, h1'.1, h2 k h1⟩
      have HX : Hid (noB (z k) = true → noN z n = true) := fun hl => noN_at hl h1
      have HL : Hid (noN z (k + 1) = noB (z k)) := by show (noN z k || _) = _; rw [HS.out, Bool.false_or]
      generalize z k = zk at *
      cases h5 : noB zk with
      | true =>
        have HX' := Hid.mk' (HX.out h5)
        rcases (noB_yes h5) with h6 | h6
        · clear h5
          go_wp2_with fail
          go_ret
          exact ⟨by rw [HX'.out]; rfl, rfl⟩
        · have h7 : ¬ zk < 0 := by omega
          clear h5
          go_wp2_with fail
          go_ret
          exact ⟨by rw [HX'.out]; rfl, rfl⟩
      | false =>
        have HL' : Hid (noN z (k + 1) = false) := by show _ = _; rw [HL.out]; exact h5
        obtain ⟨h6, h7⟩ := noB_no h5
        have h8 : ¬ zk < 0 := by omega
        have h9 : ¬ 4096 < zk := by omega
        clear h5
        go_wp2_with fail
        exact ⟨⟨k + 1, h1, by go_num, HL'⟩, by simp [intOf]; omega⟩
    · obtain rfl : n = k := by omega
      go_wp2_with fail
      go_ret
      exact ⟨by rw [HS.out]; rfl, rfl⟩
end Go.Proofs.YtgopohbombnflaaDoor
