/- Moves; does one fit? -/
import Derived.Test.YtgopohbombnflaaDoorOrVal
import Derived.Deep.RegionHeld3
import Derived.BigQuiet
namespace Go.Proofs.YtgopohbombnflaaDoor
open Go.RowKit

/-- A move. -/
structure MvI where
  f : Int
  t : Int
  s : Int
def setF (z : Nat → Int) (i : Nat) (x : Int) : Nat → Int := fun j => if j = i then x else z j
theorem setF_at (z : Nat → Int) (i : Nat) (x : Int) : setF z i x i = x := if_pos rfl
theorem setF_other {z : Nat → Int} {i j : Nat} {x : Int} (h : j ≠ i) : setF z i x j = z j := if_neg h
/-- It does not fit. -/
def mvB (n : Nat) (z : Nat → Int) (m : MvI) : Bool := decide (m.f < 0) || decide (m.t < 0) || decide ((n : Int) ≤ m.f) || decide ((n : Int) ≤ m.t) || decide (m.f = m.t) || decide (m.s < 0) || decide (z m.f.toNat - z m.t.toNat < m.s)
def mvS (z : Nat → Int) (m : MvI) : Nat → Int := setF (setF z m.f.toNat (z m.f.toNat - m.s)) m.t.toNat (z m.t.toNat + m.s)
/-- What moves make, or where they fail. -/
def runM (n : Nat) : (Nat → Int) → List MvI → Nat → Nat ⊕ (Nat → Int)
  | z, [], _ => .inr z
  | z, m :: l, k => if mvB n z m = true then .inl k else runM n (mvS z m) l (k + 1)
theorem mvB_no {n : Nat} {z : Nat → Int} {m : MvI} (h : mvB n z m = false) : 0 ≤ m.f ∧ 0 ≤ m.t ∧ m.f < n ∧ m.t < n ∧ m.f ≠ m.t ∧ 0 ≤ m.s ∧ m.s ≤ z m.f.toNat - z m.t.toNat := by
  simp [mvB] at h
  omega
theorem mvB_yes {n : Nat} {z : Nat → Int} {m : MvI} (h : mvB n z m = true) : (m.f < 0 ∨ (0 ≤ m.f ∧ (n : Int) ≤ m.f)) ∨ (0 ≤ m.f ∧ m.f < n ∧ (m.t < 0 ∨ (0 ≤ m.t ∧ (n : Int) ≤ m.t))) ∨ (0 ≤ m.f ∧ m.f < n ∧ 0 ≤ m.t ∧ m.t < n ∧ m.f = m.t) ∨ (0 ≤ m.f ∧ m.f < n ∧ 0 ≤ m.t ∧ m.t < n ∧ m.f ≠ m.t ∧ m.s < 0) ∨ (0 ≤ m.f ∧ m.f < n ∧ 0 ≤ m.t ∧ m.t < n ∧ m.f ≠ m.t ∧ 0 ≤ m.s ∧ z m.f.toNat - z m.t.toNat < m.s) := by
  simp [mvB] at h
  omega
theorem mvS_right {n : Nat} {z : Nat → Int} {m : MvI} (h : mvB n z m = false) (hz : ∀ k, k < n → 0 ≤ z k ∧ z k ≤ 4096) : ∀ k, k < n → 0 ≤ mvS z m k ∧ mvS z m k ≤ 4096 := by
  obtain ⟨h1, h2, h3, h4, h5, h6, h7⟩ := mvB_no h
  intro k hk
  have a := hz m.f.toNat (by omega)
  have b := hz m.t.toNat (by omega)
  have c := hz k hk
  unfold mvS setF
  by_cases e1 : k = m.t.toNat
  · rw [if_pos e1]; omega
  · rw [if_neg e1]
    by_cases e2 : k = m.f.toNat
    · rw [if_pos e2]; omega
    · rw [if_neg e2]; exact c

theorem isPlace_any (ad : Option Addr) (n cap : Nat) (x : Int) (w : World) : Calls Tryd.prog 51 #[.slice ad n cap, .int .i64 x] w fun e w' => e = .returned (.bool (decide (0 ≤ x) && decide (x < (n : Int)))) ∧ w' = w := by
  by_cases h1 : 0 ≤ x
  · by_cases h2 : x < (n : Int)
    · rw [show (decide (0 ≤ x) && decide (x < (n : Int))) = true from by simp [h1, h2]]
      go_enter Tryd.func51, Tryd.ntmps51
      go_wp2_with fail
      go_ret
      exact ⟨rfl, rfl⟩
    · rw [show (decide (0 ≤ x) && decide (x < (n : Int))) = false from by simp [h2]]
      go_enter Tryd.func51, Tryd.ntmps51
      go_wp2_with fail
      go_ret
      exact ⟨rfl, rfl⟩
  · rw [show (decide (0 ≤ x) && decide (x < (n : Int))) = false from by simp [h1]]
    go_enter Tryd.func51, Tryd.ntmps51
    go_wp2_with fail
    go_ret
    exact ⟨rfl, rfl⟩
theorem place_yes (ad : Option Addr) (n cap : Nat) (f : Int) (h1 : 0 ≤ f) (h2 : f < (n : Int)) : ∀ x W, x = f → Calls Tryd.prog 51 #[.slice ad n cap, .int .i64 x] W fun e w' => e = .returned (.bool true) ∧ w' = W := by
  rintro x W rfl
  have := isPlace_any ad n cap x W
  rwa [show (decide (0 ≤ x) && decide (x < (n : Int))) = true from by simp [h1, h2]] at this
theorem place_no (ad : Option Addr) (n cap : Nat) (f : Int) (h : f < 0 ∨ (0 ≤ f ∧ (n : Int) ≤ f)) : ∀ x W, x = f → Calls Tryd.prog 51 #[.slice ad n cap, .int .i64 x] W fun e w' => e = .returned (.bool false) ∧ w' = W := by
  rintro x W rfl
  have := isPlace_any ad n cap x W
  rwa [show (decide (0 ≤ x) && decide (x < (n : Int))) = false from by simp; omega] at this

set_option maxRecDepth 100000 in
set_option maxHeartbeats 4000000 in
theorem fits_any (m : MvI) (v : Value) (n : Nat) (z : Nat → Int) (w : World) (h : NumsAt w v n z) (hz : ∀ k, k < n → 0 ≤ z k ∧ z k ≤ 4096) :
    Calls Tryd.prog 38 #[.agg #[.int .i64 m.f, .int .i64 m.t, .int .i64 m.s], v] w fun e w' => e = .returned (.bool (!mvB n z m)) ∧ Below w.heap.size w w' := by
  obtain ⟨ad, cap, rfl⟩ := h.form
  obtain ⟨f, t, s⟩ := m
  have hb0 : Below w.heap.size w (w.alloc (.cells #[.int .i64 f, .int .i64 t, .int .i64 s] 37)) := (Below.refl _ _).alloc (Nat.le_refl _) _
  have HB := Hid.mk' hb0
  have hr : ∀ k, k < n → ∃ b o, ad = some ⟨b, o, none⟩ ∧ (w.alloc (.cells #[.int .i64 f, .int .i64 t, .int .i64 s] 37)).cell? ⟨b, o + k, none⟩ = some (.int .i64 (z k)) := fun k hk => by
    rcases h.later hb0 with ⟨_, _, h1', h2'⟩ | ⟨b, o, c, h1', _, h2⟩
    · omega
    · simp only [Value.slice.injEq, true_and] at h1'
      exact ⟨b, o, h1'.1, h2 k hk⟩
  have HR := Hid.mk' hr
  clear h hb0 hr
  have c0 : (w.alloc (.cells #[.int .i64 f, .int .i64 t, .int .i64 s] 37)).cell? ⟨w.heap.size, 0, none⟩ = some (.int .i64 f) := by simp
  have c1 : (w.alloc (.cells #[.int .i64 f, .int .i64 t, .int .i64 s] 37)).cell? ⟨w.heap.size, 1, none⟩ = some (.int .i64 t) := by simp
  have c2 : (w.alloc (.cells #[.int .i64 f, .int .i64 t, .int .i64 s] 37)).cell? ⟨w.heap.size, 2, none⟩ = some (.int .i64 s) := by simp
  generalize hW : w.alloc (.cells #[.int .i64 f, .int .i64 t, .int .i64 s] 37) = W at *
  have HW := Hid.mk' hW
  cases hB : mvB n z ⟨f, t, s⟩ with
  | true =>
    rcases mvB_yes hB with hy | ⟨y1, y2, hy⟩ | ⟨y1, y2, y3, y4, hy⟩ | ⟨y1, y2, y3, y4, y5, hy⟩ | ⟨y1, y2, y3, y4, y5, y6, hy⟩
    · have HP := Hid.mk' (place_no ad n cap f hy)
      clear hB hy
      clear hz
      go_enter Tryd.func38, Tryd.ntmps38
      go_wp2_with fail
      go_quiet ((go_at_call 51; exact Calls.quiet_of_same (HP.out _ _ rfl)))
      go_wp2_with fail
      go_ret
      exact ⟨rfl, below_drewN HB.out _⟩
    · have HP := Hid.mk' (place_yes ad n cap f y1 y2)
      have HQ := Hid.mk' (place_no ad n cap t hy)
      clear hB hy y1 y2
      clear hz
      go_enter Tryd.func38, Tryd.ntmps38
      go_wp2_with fail
      go_quiet ((go_at_call 51; first | exact Calls.quiet_of_same (HP.out _ _ rfl) | exact Calls.quiet_of_same (HQ.out _ _ rfl)))
      go_wp2_with fail
      go_ret
      exact ⟨rfl, below_drewN HB.out _⟩
    · simp only at hy
      subst hy
      have HP := Hid.mk' (place_yes ad n cap f y1 y2)
      clear hB y1 y2 y3 y4
      have e1 : (f != f) = false := by simp
      clear hz
      go_enter Tryd.func38, Tryd.ntmps38
      go_wp2_with fail
      go_quiet ((go_at_call 51; exact Calls.quiet_of_same (HP.out _ _ rfl)))
      go_wp2_with fail
      go_ret
      exact ⟨rfl, below_drewN HB.out _⟩
    · have HP := Hid.mk' (place_yes ad n cap f y1 y2)
      have HQ := Hid.mk' (place_yes ad n cap t y3 y4)
      simp only at hy y5
      clear hB y1 y2 y3 y4
      have e1 : (f != t) = true := by simp; exact y5
      have e2 : decide (0 ≤ s) = false := by simp; omega
      clear hz
      go_enter Tryd.func38, Tryd.ntmps38
      go_wp2_with fail
      go_quiet ((go_at_call 51; first | exact Calls.quiet_of_same (HP.out _ _ rfl) | exact Calls.quiet_of_same (HQ.out _ _ rfl)))
      go_wp2_with fail
      go_ret
      exact ⟨rfl, below_drewN HB.out _⟩
    · simp only at hy y1 y2 y3 y4 y5 y6
      obtain ⟨i, rfl⟩ : ∃ i : Nat, f = (i : Int) := ⟨f.toNat, by omega⟩
      obtain ⟨j, rfl⟩ : ∃ j : Nat, t = (j : Int) := ⟨t.toNat, by omega⟩
      simp only [Int.toNat_natCast] at hy
      have HP := Hid.mk' (place_yes ad n cap i y1 y2)
      have HQ := Hid.mk' (place_yes ad n cap j y3 y4)
      obtain ⟨b, o, rfl, hi⟩ := HR.out i (by omega)
      obtain ⟨b', o', e, hj⟩ := HR.out j (by omega)
      obtain ⟨rfl, rfl⟩ : b = b' ∧ o = o' := by simpa using e
      have a1 := hz i (by omega)
      have a2 := hz j (by omega)
      generalize z i = zi at *
      generalize z j = zj at *
      clear hB e
      have e1 : ((i : Int) != (j : Int)) = true := by simp; omega
      have e2 : decide (0 ≤ s) = true := by simp; omega
      have e3 : decide (s ≤ zi - zj) = false := by simp; omega
      clear hz
      go_enter Tryd.func38, Tryd.ntmps38
      go_wp2_with fail
      go_quiet ((go_at_call 51; first | exact Calls.quiet_of_same (HP.out _ _ rfl) | exact Calls.quiet_of_same (HQ.out _ _ rfl)))
      go_wp2_with fail
      go_ret
      exact ⟨rfl, below_drewN HB.out _⟩
  | false =>
    obtain ⟨y1, y3, y2, y4, y5, y6, hy⟩ := mvB_no hB
    simp only at hy y1 y2 y3 y4 y5 y6
    obtain ⟨i, rfl⟩ : ∃ i : Nat, f = (i : Int) := ⟨f.toNat, by omega⟩
    obtain ⟨j, rfl⟩ : ∃ j : Nat, t = (j : Int) := ⟨t.toNat, by omega⟩
    simp only [Int.toNat_natCast] at hy
    have HP := Hid.mk' (place_yes ad n cap i y1 y2)
    have HQ := Hid.mk' (place_yes ad n cap j y3 y4)
    obtain ⟨b, o, rfl, hi⟩ := HR.out i (by omega)
    obtain ⟨b', o', e, hj⟩ := HR.out j (by omega)
    obtain ⟨rfl, rfl⟩ : b = b' ∧ o = o' := by simpa using e
    have a1 := hz i (by omega)
    have a2 := hz j (by omega)
    generalize z i = zi at *
    generalize z j = zj at *
    clear hB e
    have e1 : ((i : Int) != (j : Int)) = true := by simp; omega
    have e2 : decide (0 ≤ s) = true := by simp; omega
    have e3 : decide (s ≤ zi - zj) = true := by simp; omega
    clear hz
    go_enter Tryd.func38, Tryd.ntmps38
    go_wp2_with fail
    go_quiet ((go_at_call 51; first | exact Calls.quiet_of_same (HP.out _ _ rfl) | exact Calls.quiet_of_same (HQ.out _ _ rfl)))
    go_wp2_with fail
    go_ret
    exact ⟨rfl, below_drewN HB.out _⟩
end Go.Proofs.YtgopohbombnflaaDoor
