/- Moves; does one fit? -/
import Derived.Test.YtgaamcmjonngjaaDoorPackD
import Derived.Deep.RegionHeld3
import Derived.BigQuiet
import Derived.Test.YtgaamcmjonngjaaDoorValidWalk
import Derived.Test.YtgaamcmjonngjaaDoorWeights
import Derived.Deep.AppendLies
import Derived.Test.YtgaamcmjonngjaaDoorRows
import Derived.Test.YtgaamcmjonngjaaDoorErrs
import Derived.ChangeSame
import Derived.ChangeVars
import Derived.JoinedOf
import Derived.LaidLaws
import Derived.LaidHandle
import Derived.LaidMore
import Derived.Stop.Joined
import Derived.Test.YtgaamcmjonngjaaDoorInts
import Derived.Test.YtgaamcmjonngjaaDoorCards
import Derived.Test.YtgaamcmjonngjaaDoorTie
import Derived.SevenTiedAt
import Derived.ProofKit
import Derived.OpenShut
import Derived.ChangeOld
import Derived.Lib.SmallJoins
import Derived.Deep.Matrix
import Derived.Deep.Slices
import Derived.ChangeArms
namespace Go.Proofs.YtgaamcmjonngjaaDoor
open Go.RowKit

/-- A move. -/
structure MvI where
  f : Int
  t : Int
  s : Int
def setF (z : Nat → Int) (i : Nat) (x : Int) : Nat → Int := fun j => if j = i then x else z j
theorem setF_at (z : Nat → Int) (i : Nat) (x : Int) : setF z i x i = x := if_pos rfl
theorem setF_other {z : Nat → Int} {i j : Nat} {x : Int} (h : j ≠ i) : setF z i x j = z j := if_neg h
/-- It does not fit. -/
def mvB (n : Nat) (z : Nat → Int) (m : MvI) : Bool := decide (m.f < 0) || decide (m.t < 0) || decide ((n : Int) ≤ m.f) || decide ((n : Int) ≤ m.t) || decide (m.f = m.t) || decide (m.s < 0) || decide (z m.f.toNat - z m.t.toNat < m.s)
def mvS (z : Nat → Int) (m : MvI) : Nat → Int := setF (setF z m.f.toNat (z m.f.toNat - m.s)) m.t.toNat (z m.t.toNat + m.s)
/-- What moves make, or where they fail. -/
def runM (n : Nat) : (Nat → Int) → List MvI → Nat → Nat ⊕ (Nat → Int)
  | z, [], _ => .inr z
  | z, m :: l, k => if mvB n z m = true then .inl k else runM n (mvS z m) l (k + 1)
theorem mvB_no {n : Nat} {z : Nat → Int} {m : MvI} (h : mvB n z m = false) : 0 ≤ m.f ∧ 0 ≤ m.t ∧ m.f < n ∧ m.t < n ∧ m.f ≠ m.t ∧ 0 ≤ m.s ∧ m.s ≤ z m.f.toNat - z m.t.toNat := by
  simp [mvB] at h
  omega
theorem mvB_yes {n : Nat} {z : Nat → Int} {m : MvI} (h : mvB n z m = true) : (m.f < 0 ∨ (0 ≤ m.f ∧ (n : Int) ≤ m.f)) ∨ (0 ≤ m.f ∧ m.f < n ∧ (m.t < 0 ∨ (0 ≤ m.t ∧ (n : Int) ≤ m.t))) ∨ (0 ≤ m.f ∧ m.f < n ∧ 0 ≤ m.t ∧ m.t < n ∧ m.f = m.t) ∨ (0 ≤ m.f ∧ m.f < n ∧ 0 ≤ m.t ∧ m.t < n ∧ m.f ≠ m.t ∧ m.s < 0) ∨ (0 ≤ m.f ∧ m.f < n ∧ 0 ≤ m.t ∧ m.t < n ∧ m.f ≠ m.t ∧ 0 ≤ m.s ∧ z m.f.toNat - z m.t.toNat < m.s) := by
  simp [mvB] at h
  omega
theorem mvS_right {n : Nat} {z : Nat → Int} {m : MvI} (h : mvB n z m = false) (hz : ∀ k, k < n → 0 ≤ z k ∧ z k ≤ 4096) : ∀ k, k < n → 0 ≤ mvS z m k ∧ mvS z m k ≤ 4096 := by
  obtain ⟨h1, h2, h3, h4, h5, h6, h7⟩ := mvB_no h
  intro k hk
  have a := hz m.f.toNat (by omega)
  have b := hz m.t.toNat (by omega)
  have c := hz k hk
  unfold mvS setF
  by_cases e1 : k = m.t.toNat
  · rw [if_pos e1]; omega
  · rw [if_neg e1]
    by_cases e2 : k = m.f.toNat
    · rw [if_pos e2]; omega
    · rw [if_neg e2]; exact c

theorem isPlace_any (ad : Option Addr) (n cap : Nat) (x : Int) (w : World) : Calls Tryd.prog 73 #[.slice ad n cap, .int .i64 x] w fun e w' => e = .returned (.bool (decide (0 ≤ x) && decide (x < (n : Int)))) ∧ w' = w := by
  by_cases h1 : 0 ≤ x
  · by_cases h2 : x < (n : Int)
    · rw [show (decide (0 ≤ x) && decide (x < (n : Int))) = true from by simp [h1, h2]]
      go_enter Tryd.func73, Tryd.ntmps73
      go_wp2_with fail
      go_ret
      exact ⟨rfl, rfl⟩
    · rw [show (decide (0 ≤ x) && decide (x < (n : Int))) = false from by simp [h2]]
      go_enter Tryd.func73, Tryd.ntmps73
      go_wp2_with fail
      go_ret
      exact ⟨rfl, rfl⟩
  · rw [show (decide (0 ≤ x) && decide (x < (n : Int))) = false from by simp [h1]]
    go_enter Tryd.func73, Tryd.ntmps73
    go_wp2_with fail
    go_ret
    exact ⟨rfl, rfl⟩
theorem place_yes (ad : Option Addr) (n cap : Nat) (f : Int) (h1 : 0 ≤ f) (h2 : f < (n : Int)) : ∀ x W, x = f → Calls Tryd.prog 73 #[.slice ad n cap, .int .i64 x] W fun e w' => e = .returned (.bool true) ∧ w' = W := by
  rintro x W rfl
  have := isPlace_any ad n cap x W
  rwa [show (decide (0 ≤ x) && decide (x < (n : Int))) = true from by simp [h1, h2]] at this
theorem place_no (ad : Option Addr) (n cap : Nat) (f : Int) (h : f < 0 ∨ (0 ≤ f ∧ (n : Int) ≤ f)) : ∀ x W, x = f → Calls Tryd.prog 73 #[.slice ad n cap, .int .i64 x] W fun e w' => e = .returned (.bool false) ∧ w' = W := by
  rintro x W rfl
  have := isPlace_any ad n cap x W
  rwa [show (decide (0 ≤ x) && decide (x < (n : Int))) = false from by simp; omega] at this

set_option maxRecDepth 100000 in
set_option maxHeartbeats 4000000 in
theorem fits_any (m : MvI) (v : Value) (n : Nat) (z : Nat → Int) (w : World) (h : NumsAt w v n z) (hz : ∀ k, k < n → 0 ≤ z k ∧ z k ≤ 4096) :
    Calls Tryd.prog 39 #[.agg #[.int .i64 m.f, .int .i64 m.t, .int .i64 m.s], v] w fun e w' => e = .returned (.bool (!mvB n z m)) ∧ Below w.heap.size w w' := by
  obtain ⟨ad, cap, rfl⟩ := h.form
  obtain ⟨f, t, s⟩ := m
  have hb0 : Below w.heap.size w (w.alloc (.cells #[.int .i64 f, .int .i64 t, .int .i64 s] 83)) := (Below.refl _ _).alloc (Nat.le_refl _) _
  have HB := Hid.mk' hb0
  have hr : ∀ k, k < n → ∃ b o, ad = some ⟨b, o, none⟩ ∧ (w.alloc (.cells #[.int .i64 f, .int .i64 t, .int .i64 s] 83)).cell? ⟨b, o + k, none⟩ = some (.int .i64 (z k)) := fun k hk => by
    rcases h.later hb0 with ⟨_, _, h1', h2'⟩ | ⟨b, o, c, h1', _, h2⟩
    · omega
    · simp only [Value.slice.injEq, true_and] at h1'
      exact ⟨b, o, h1'.1, h2 k hk⟩
  have HR := Hid.mk' hr
  clear h hb0 hr
  have c0 : (w.alloc (.cells #[.int .i64 f, .int .i64 t, .int .i64 s] 83)).cell? ⟨w.heap.size, 0, none⟩ = some (.int .i64 f) := by simp
  have c1 : (w.alloc (.cells #[.int .i64 f, .int .i64 t, .int .i64 s] 83)).cell? ⟨w.heap.size, 1, none⟩ = some (.int .i64 t) := by simp
  have c2 : (w.alloc (.cells #[.int .i64 f, .int .i64 t, .int .i64 s] 83)).cell? ⟨w.heap.size, 2, none⟩ = some (.int .i64 s) := by simp
  generalize hW : w.alloc (.cells #[.int .i64 f, .int .i64 t, .int .i64 s] 83) = W at *
  have HW := Hid.mk' hW
  cases hB : mvB n z ⟨f, t, s⟩ with
  | true =>
    rcases mvB_yes hB with hy | ⟨y1, y2, hy⟩ | ⟨y1, y2, y3, y4, hy⟩ | ⟨y1, y2, y3, y4, y5, hy⟩ | ⟨y1, y2, y3, y4, y5, y6, hy⟩
    · have HP := Hid.mk' (place_no ad n cap f hy)
      clear hB hy
      clear hz
      go_enter Tryd.func39, Tryd.ntmps39
      go_wp2_with fail
      go_quiet ((go_at_call 73; exact Calls.quiet_of_same (HP.out _ _ rfl)))
      go_wp2_with fail
      go_ret
      exact ⟨rfl, below_drewN HB.out _⟩
    · have HP := Hid.mk' (place_yes ad n cap f y1 y2)
      have HQ := Hid.mk' (place_no ad n cap t hy)
      clear hB hy y1 y2
      clear hz
      go_enter Tryd.func39, Tryd.ntmps39
      go_wp2_with fail
      go_quiet ((go_at_call 73; first | exact Calls.quiet_of_same (HP.out _ _ rfl) | exact Calls.quiet_of_same (HQ.out _ _ rfl)))
      go_wp2_with fail
      go_ret
      exact ⟨rfl, below_drewN HB.out _⟩
    · simp only at hy
      subst hy
      have HP := Hid.mk' (place_yes ad n cap f y1 y2)
      clear hB y1 y2 y3 y4
      have e1 : (f != f) = false := by simp
      clear hz
      go_enter Tryd.func39, Tryd.ntmps39
      go_wp2_with fail
      go_quiet ((go_at_call 73; exact Calls.quiet_of_same (HP.out _ _ rfl)))
      go_wp2_with fail
      go_ret
      exact ⟨rfl, below_drewN HB.out _⟩
    · have HP := Hid.mk' (place_yes ad n cap f y1 y2)
      have HQ := Hid.mk' (place_yes ad n cap t y3 y4)
      simp only at hy y5
      clear hB y1 y2 y3 y4
      have e1 : (f != t) = true := by simp; exact y5
      have e2 : decide (0 ≤ s) = false := by simp; omega
      clear hz
      go_enter Tryd.func39, Tryd.ntmps39
      go_wp2_with fail
      go_quiet ((go_at_call 73; first | exact Calls.quiet_of_same (HP.out _ _ rfl) | exact Calls.quiet_of_same (HQ.out _ _ rfl)))
      go_wp2_with fail
      go_ret
      exact ⟨rfl, below_drewN HB.out _⟩
    · simp only at hy y1 y2 y3 y4 y5 y6
      obtain ⟨i, rfl⟩ : ∃ i : Nat, f = (i : Int) := ⟨f.toNat, by omega⟩
      obtain ⟨j, rfl⟩ : ∃ j : Nat, t = (j : Int) := ⟨t.toNat, by omega⟩
      simp only [Int.toNat_natCast] at hy
      have HP := Hid.mk' (place_yes ad n cap i y1 y2)
      have HQ := Hid.mk' (place_yes ad n cap j y3 y4)
      obtain ⟨b, o, rfl, hi⟩ := HR.out i (by omega)
      obtain ⟨b', o', e, hj⟩ := HR.out j (by omega)
      obtain ⟨rfl, rfl⟩ : b = b' ∧ o = o' := by simpa using e
      have a1 := hz i (by omega)
      have a2 := hz j (by omega)
      generalize z i = zi at *
      generalize z j = zj at *
      clear hB e
      have e1 : ((i : Int) != (j : Int)) = true := by simp; omega
      have e2 : decide (0 ≤ s) = true := by simp; omega
      have e3 : decide (s ≤ zi - zj) = false := by simp; omega
      clear hz
      go_enter Tryd.func39, Tryd.ntmps39
      go_wp2_with fail
      go_quiet ((go_at_call 73; first | exact Calls.quiet_of_same (HP.out _ _ rfl) | exact Calls.quiet_of_same (HQ.out _ _ rfl)))
      go_wp2_with fail
      go_ret
      exact ⟨rfl, below_drewN HB.out _⟩
  | false =>
    obtain ⟨y1, y3, y2, y4, y5, y6, hy⟩ := mvB_no hB
    simp only at hy y1 y2 y3 y4 y5 y6
    obtain ⟨i, rfl⟩ : ∃ i : Nat, f = (i : Int) := ⟨f.toNat, by omega⟩
    obtain ⟨j, rfl⟩ : ∃ j : Nat, t = (j : Int) := ⟨t.toNat, by omega⟩
    simp only [Int.toNat_natCast] at hy
    have HP := Hid.mk' (place_yes ad n cap i y1 y2)
    have HQ := Hid.mk' (place_yes ad n cap j y3 y4)
    obtain ⟨b, o, rfl, hi⟩ := HR.out i (by omega)
    obtain ⟨b', o', e, hj⟩ := HR.out j (by omega)
    obtain ⟨rfl, rfl⟩ : b = b' ∧ o = o' := by simpa using e
    have a1 := hz i (by omega)
    have a2 := hz j (by omega)
    generalize z i = zi at *
    generalize z j = zj at *
    clear hB e
    have e1 : ((i : Int) != (j : Int)) = true := by simp; omega
    have e2 : decide (0 ≤ s) = true := by simp; omega
    have e3 : decide (s ≤ zi - zj) = true := by simp; omega
    clear hz
    go_enter Tryd.func39, Tryd.ntmps39
    go_wp2_with fail
    go_quiet ((go_at_call 73; first | exact Calls.quiet_of_same (HP.out _ _ rfl) | exact Calls.quiet_of_same (HQ.out _ _ rfl)))
    go_wp2_with fail
    go_ret
    exact ⟨rfl, below_drewN HB.out _⟩
end Go.Proofs.YtgaamcmjonngjaaDoor

/- A copy of a list, and what is put into it. -/
namespace Go.Proofs.YtgaamcmjonngjaaDoor
open Go.RowKit

theorem Fills.later {w W W' : World} {g T : Nat} {f : Nat → Int} (h : Fills w W g T f) (hb : Below W.heap.size W W') : Fills w W' g T f :=
  ⟨h.row.later hb, fun i hi => by rw [hb.frozen (cell_lt (h.row i hi))]; exact h.fz i hi, below_chain h.below hb, h.hg⟩
/-- A list that may be put into; none has no row. -/
def FillV (w W : World) (v : Value) (n : Nat) (f : Nat → Int) : Prop := Below w.heap.size w W ∧ ((n = 0 ∧ v = .slice none 0 0) ∨ ∃ g cap, v = .slice (some ⟨g, 0, none⟩) n cap ∧ Fills w W g n f)
theorem FillV.later {w W W' : World} {v : Value} {n : Nat} {f : Nat → Int} (h : FillV w W v n f) (hb : Below W.heap.size W W') : FillV w W' v n f := by
  refine ⟨below_chain h.1 hb, ?_⟩
  rcases h.2 with h | ⟨g, cap, hv, hf⟩
  · exact Or.inl h
  · exact Or.inr ⟨g, cap, hv, hf.later hb⟩
theorem FillV.nums {w W : World} {v : Value} {n : Nat} {f : Nat → Int} (h : FillV w W v n f) : NumsAt W v n f := by
  rcases h.2 with ⟨h0, hv⟩ | ⟨g, cap, hv, hf⟩
  · exact Or.inl ⟨_, _, hv, h0⟩
  · rcases Nat.eq_zero_or_pos n with h0 | h0
    · exact Or.inl ⟨_, _, by rw [hv, h0], h0⟩
    · exact Or.inr ⟨g, 0, cap, hv, h0, hf.row⟩
theorem FillV.some {w W : World} {v : Value} {n : Nat} {f : Nat → Int} (h : FillV w W v n f) (h0 : 0 < n) : ∃ g cap, v = .slice (some ⟨g, 0, none⟩) n cap ∧ Fills w W g n f := by
  rcases h.2 with ⟨h1, _⟩ | h
  · omega
  · exact h
theorem own_fill {w W : World} {v : Value} {n : Nat} {z : Nat → Int} {t : TypeId} (h : W.ownsRow w.heap.size t 1 v n (numCells z n)) (hb : Below w.heap.size w W) : FillV w W v n z := by
  refine ⟨hb, ?_⟩
  obtain ⟨hl, hr⟩ := h
  rcases hr with ⟨hx, h0⟩ | ⟨g', cap', cur, hv, hg, hh, _, _, hs, ht⟩
  · exact Or.inl ⟨h0, hx⟩
  · refine Or.inr ⟨g', cap', hv, fun i hi => ?_, fun i hi => ?_, hb, hg⟩
    · rw [← numCells_at z n i hi, ← ht, List.getElem?_take_of_lt (by omega)]
      simp [World.cell?, hh]
    · simp [World.frozen?, hh]
set_option maxRecDepth 100000 in
theorem clone_own (v : Value) (n : Nat) (z : Nat → Int) (w : World) (h : (v = .slice none 0 0 ∧ n = 0) ∨ ∃ g cap, v = .slice (some ⟨g, 0, none⟩) n cap ∧ RowAt w g 0 n z) (hn : n ≤ 100000) :
    Calls Tryd.prog 38 #[v] w fun e w' => ∃ v', e = .returned v' ∧ FillV w w' v' n z := by
  rcases h with ⟨rfl, rfl⟩ | ⟨g, cap, rfl, hr⟩
  · have he : ∀ w : World, (binOp .eql 22 (.slice none 0 0) (.slice none 0 0)).run Tryd.prog w = .ok (.bool true) w := fun _ => rfl
    go_enter Tryd.func38, Tryd.ntmps38
    go_wp2_with fail
    go_ret
    exact ⟨_, rfl, Below.refl _ _, Or.inl ⟨rfl, rfl⟩⟩
  · refine (Any.slices_Clone_int (ρ := Tryd.cloneA_ren) Tryd.cloneA g 0 n cap (rowL z n) w (by rw [rowL_length]; exact Nat.le_refl _) (by omega) (fun j hj => ?_)).mono ?_
    · rw [rowL_length] at hj
      rw [hr j hj]
      simp [rowL, hj]
    · rintro e w' ⟨v', rfl, h1, _, h2⟩
      refine ⟨v', rfl, ?_⟩
      rw [List.take_of_length_le (by rw [rowL_length]; exact Nat.le_refl _)] at h1
      have h3 : w'.ownsRow w.heap.size 3 1 v' n (numCells z n) := by rw [← cellL_row]; exact h1
      exact own_fill h3 h2
end Go.Proofs.YtgaamcmjonngjaaDoor

/- Errors with their places, of a process: what they are in memory. -/
namespace Go.Proofs.YtgaamcmjonngjaaDoor
open Go.RowKit

/-- An error by its number and place, in memory. -/
def ErrPl (a : Nat → Addr) (w : World) (v : Value) (c : Nat × Int) : Prop :=
  (v = errV a c.1 ∧ c.2 = -1 ∧ c.1 ≤ 8) ∨ ∃ pb, v = .iface 85 (.pointer (some ⟨pb, 0, none⟩)) ∧ w.cell? ⟨pb, 0, none⟩ = some (.int .i64 c.2) ∧ w.cell? ⟨pb, 1, none⟩ = some (.iface 227 (.pointer (some (a (c.1 - 1))))) ∧ 1 ≤ c.1 ∧ c.1 ≤ 8
theorem ErrPl.later {a : Nat → Addr} {w w' : World} {v : Value} {c : Nat × Int} (h : ErrPl a w v c) (hb : Below w.heap.size w w') : ErrPl a w' v c := by
  rcases h with h | ⟨pb, h1, h2, h3, h4⟩
  · exact Or.inl h
  · exact Or.inr ⟨pb, h1, by rw [hb.cell (cell_lt h2)]; exact h2, by rw [hb.cell (cell_lt h3)]; exact h3, h4⟩
theorem ErrPl.iface {a : Nat → Addr} {w : World} {v : Value} {c : Nat × Int} (h : ErrPl a w v c) (h0 : c.1 ≠ 0) : ∃ t x, v = .iface t x := by
  rcases h with ⟨rfl, _, _⟩ | ⟨pb, rfl, _⟩
  · rw [errV_pos a h0]; exact ⟨_, _, rfl⟩
  · exact ⟨_, _, rfl⟩
theorem ErrPl.nil0 {a : Nat → Addr} {w : World} {v : Value} {c : Nat × Int} (h : ErrPl a w v c) (h0 : c.1 = 0) : v = .nilIface := by
  rcases h with ⟨rfl, _, _⟩ | ⟨pb, rfl, _, _, h1, _⟩
  · rw [h0, errV_zero]
  · omega
end Go.Proofs.YtgaamcmjonngjaaDoor

/- The program's Apply. -/
namespace Go.Proofs.YtgaamcmjonngjaaDoor
open Go.RowKit

/-- Moves in memory. -/
def MvAt (w : World) (v : Value) (l : List MvI) : Prop := ∃ ad cap, v = .slice ad l.length cap ∧ ∀ i m, l[i]? = some m → ∃ b o, ad = some ⟨b, o, none⟩ ∧ w.cell? ⟨b, o + i * 3, none⟩ = some (.int .i64 m.f) ∧ w.cell? ⟨b, o + i * 3 + 1, none⟩ = some (.int .i64 m.t) ∧ w.cell? ⟨b, o + i * 3 + 2, none⟩ = some (.int .i64 m.s)
theorem MvAt.later {w w' : World} {v : Value} {l : List MvI} (h : MvAt w v l) (hb : Below w.heap.size w w') : MvAt w' v l := by
  obtain ⟨ad, cap, hv, hc⟩ := h
  refine ⟨ad, cap, hv, fun i c hi => ?_⟩
  obtain ⟨b, o, ha, h0, h1, h2⟩ := hc i c hi
  refine ⟨b, o, ha, ?_, ?_, ?_⟩
  · rw [hb.cell (cell_lt h0)]; exact h0
  · rw [hb.cell (cell_lt h1)]; exact h1
  · rw [hb.cell (cell_lt h2)]; exact h2
theorem MvAt.form {w : World} {v : Value} {l : List MvI} (h : MvAt w v l) : ∃ ad cap, v = .slice ad l.length cap := let ⟨ad, cap, hv, _⟩ := h; ⟨ad, cap, hv⟩
theorem MvAt.at {w : World} {ad : Option Addr} {n cap : Nat} {l : List MvI} (h : MvAt w (.slice ad n cap) l) {i : Nat} {m : MvI} (hi : l[i]? = some m) : ∃ b o, ad = some ⟨b, o, none⟩ ∧ w.cell? ⟨b, o + i * 3, none⟩ = some (.int .i64 m.f) ∧ w.cell? ⟨b, o + i * 3 + 1, none⟩ = some (.int .i64 m.t) ∧ w.cell? ⟨b, o + i * 3 + 2, none⟩ = some (.int .i64 m.s) := by
  obtain ⟨ad', cap', hv, hc⟩ := h
  obtain ⟨rfl, _, rfl⟩ : ad = ad' ∧ n = l.length ∧ cap = cap' := by simpa using hv
  exact hc i m hi
theorem drop_mv {l : List MvI} {k : Nat} {m : MvI} (h : l[k]? = some m) : l.drop k = m :: l.drop (k + 1) := by
  obtain ⟨hi, rfl⟩ := List.getElem?_eq_some_iff.1 h
  exact List.drop_eq_getElem_cons hi

/-- What Apply says; what it makes. -/
def apE (n : Nat) (z : Nat → Int) (l : List MvI) : Nat × Int :=
  if 16 < n ∨ 4000 < l.length then (2, -1) else if noN z n = true then (3, -1) else
    match runM n z l 0 with
    | .inl i => (7, (i : Int))
    | .inr _ => (0, -1)
def apZ (n : Nat) (z : Nat → Int) (l : List MvI) : Nat → Int :=
  match runM n z l 0 with
  | .inl _ => z
  | .inr f => f
theorem apE_big {n : Nat} {z : Nat → Int} {l : List MvI} (h : 16 < n ∨ 4000 < l.length) : apE n z l = (2, -1) := if_pos h
theorem apE_none {n : Nat} {z : Nat → Int} {l : List MvI} (h : ¬ (16 < n ∨ 4000 < l.length)) (h2 : noN z n = true) : apE n z l = (3, -1) := by unfold apE; rw [if_neg h, if_pos h2]
theorem apE_go {n : Nat} {z : Nat → Int} {l : List MvI} (h : ¬ (16 < n ∨ 4000 < l.length)) (h2 : noN z n = false) : apE n z l = match runM n z l 0 with
    | .inl i => (7, (i : Int))
    | .inr _ => (0, -1) := by unfold apE; rw [if_neg h, h2, if_neg (by decide)]
theorem run_bad {n : Nat} {z f : Nat → Int} {l : List MvI} {k : Nat} {m : MvI} (h : runM n z l 0 = runM n f (l.drop k) k) (hm : l[k]? = some m) (hb : mvB n f m = true) : runM n z l 0 = .inl k := by
  rw [h, drop_mv hm]; show (if mvB n f m = true then _ else _) = _; rw [if_pos hb]
theorem run_next {n : Nat} {z f : Nat → Int} {l : List MvI} {k : Nat} {m : MvI} (h : runM n z l 0 = runM n f (l.drop k) k) (hm : l[k]? = some m) (hb : mvB n f m = false) : runM n z l 0 = runM n (mvS f m) (l.drop (k + 1)) (k + 1) := by
  rw [h, drop_mv hm]; show (if mvB n f m = true then _ else _) = _; rw [hb, if_neg (by decide)]
theorem run_end {n : Nat} {z f : Nat → Int} {l : List MvI} (h : runM n z l 0 = runM n f (l.drop l.length) l.length) : runM n z l 0 = .inr f := by
  rw [h, List.drop_length]; rfl

set_option maxRecDepth 100000 in
set_option maxHeartbeats 4000000 in
theorem Apply_any (a : Nat → Addr) (v lv : Value) (n : Nat) (z : Nat → Int) (l : List MvI) (w : World) (hE : Errs w a) (h : (v = .slice none 0 0 ∧ n = 0) ∨ ∃ g cap, v = .slice (some ⟨g, 0, none⟩) n cap ∧ RowAt w g 0 n z) (hl : MvAt w lv l) (hn : n ≤ 100000) (hll : l.length ≤ 100000) :
    Calls Tryd.prog 10 #[v, lv] w fun e w' => ∃ r x, e = .returned (.tuple #[r, x]) ∧ ErrPl a w' x (apE n z l) ∧ ((apE n z l).1 ≠ 0 → r = .slice none 0 0) ∧ ((apE n z l).1 = 0 → NumsAt w' r n (apZ n z l)) ∧ Below w.heap.size w w' := by
  obtain ⟨lad, lcap, rfl⟩ := hl.form
  have hnum : NumsAt w v n z := by
    rcases h with ⟨h1, h2⟩ | ⟨g, cap, h1, h2⟩
    · exact Or.inl ⟨_, _, h1, h2⟩
    · rcases Nat.eq_zero_or_pos n with h0 | h0
      · exact Or.inl ⟨_, _, by rw [h1, h0], h0⟩
      · exact Or.inr ⟨g, 0, cap, h1, h0, h2⟩
  have hCl := clone_own v n z w h hn
  have hCf := ContainsFunc_num v n z w hnum (by omega)
  obtain ⟨ad, cap, rfl⟩ := hnum.form
  have HL := Hid.mk' (fun (W : World) (hb : Below w.heap.size w W) => hl.later hb)
  have HE1 := Hid.mk' (fun (W : World) (hb : Below w.heap.size w W) => (hE.below hb).c1)
  have HE2 := Hid.mk' (fun (W : World) (hb : Below w.heap.size w W) => (hE.below hb).c2)
  have HE6 := Hid.mk' (fun (W : World) (hb : Below w.heap.size w W) => (hE.below hb).c6)
  clear h hnum hl hE
  by_cases h4 : 16 < n ∨ 4000 < l.length
  · have HC : Hid (apE n z l = (2, -1)) := apE_big h4
    have e1 := HE1.out w (Below.refl _ _)
    have hd : (16 : Int) < (n : Int) ∨ (¬ (16 : Int) < (n : Int) ∧ (4000 : Int) < (l.length : Int)) := by omega
    clear hCl hCf h4
    rcases hd with h1 | ⟨h1, h2⟩
    all_goals
      go_enter Tryd.func10, Tryd.ntmps10
      go_wp2_with fail
      go_quiet (fail)
      go_wp2_with fail
      go_ret2
      exact ⟨_, _, rfl, by rw [HC.out]; exact Or.inl ⟨rfl, rfl, by decide⟩, fun _ => rfl, (fun h => by rw [HC.out] at h; cases h), below_drewN (Below.refl _ _) _⟩
  · have h1 : ¬ (16 : Int) < (n : Int) := by omega
    have h2 : ¬ (4000 : Int) < (l.length : Int) := by omega
    cases hno : noN z n with
    | true =>
      have HC : Hid (apE n z l = (3, -1)) := apE_none h4 hno
      have e2 := HE2.out w (Below.refl _ _)
      rw [hno] at hCf
      clear hCl h4 hno
      go_enter Tryd.func10, Tryd.ntmps10
      go_wp2_with fail
      refine hCf.mono ?_
      clear hCf
      rintro e w2 ⟨rfl, rfl⟩
      go_wp2_with fail
      go_quiet (fail)
      go_wp2_with fail
      go_ret2
      exact ⟨_, _, rfl, by rw [HC.out]; exact Or.inl ⟨rfl, rfl, by decide⟩, fun _ => rfl, (fun h => by rw [HC.out] at h; cases h), below_drewN (Below.refl _ _) _⟩
    | false =>
      have HC := Hid.mk' (apE_go h4 hno)
      have HZ := Hid.mk' (noN_none hno)
      rw [hno] at hCf
      clear h4 hno
      go_enter Tryd.func10, Tryd.ntmps10
      go_wp2_with fail
      refine hCf.mono ?_
      clear hCf
      rintro e w1 ⟨rfl, hw1⟩
      rw [hw1]
      clear hw1
      go_wp2_with fail
      refine hCl.mono ?_
      clear hCl
      rintro e w2 ⟨v2, rfl, hf2⟩
      obtain ⟨ad2, cap2, rfl⟩ := hf2.nums.form
      have HF2 := Hid.mk' hf2
      clear hf2
      go_wp2_with fail
      go_loopw [25] (fun t wr => ∃ (k : Nat) (f : Nat → Int), k ≤ l.length ∧ t = .int .i64 (k : Int) ∧ Hid (FillV w wr (.slice ad2 n cap2) n f) ∧ Hid (∀ j, j < n → 0 ≤ f j ∧ f j ≤ 4096) ∧ Hid (runM n z l 0 = runM n f (l.drop k) k)) (fun t _ => l.length - (intOf t).toNat)
      case atStart => exact ⟨0, z, Nat.zero_le _, rfl, HF2.out, HZ.out, rfl⟩
      case round =>
        clear HF2 HZ
        obtain ⟨k, f, hk, rfl, HF, HZ, HS⟩ := hrel
        rcases Nat.lt_or_ge k l.length with h3 | h3
        · obtain ⟨m, hm⟩ : ∃ m, l[k]? = some m := ⟨_, List.getElem?_eq_getElem h3⟩
          obtain ⟨b, o, rfl, x0, x1, x2⟩ := (HL.out wr HF.out.1).at hm
          have hkI : (k : Int) < (l.length : Int) := by omega
          have hk0 : (0 : Int) ≤ (k : Int) := by omega
          have hle := HF.out.1.size
          have hbA : Below wr.heap.size wr (wr.alloc (.cells #[.int .i64 m.f, .int .i64 m.t, .int .i64 m.s] 83)) := (Below.refl _ _).alloc (Nat.le_refl _) _
          have HFA := Hid.mk' (HF.out.later hbA)
          have hft := fits_any m (.slice ad2 n cap2) n f _ HFA.out.nums HZ.out
          have HBX : Hid ((wr.alloc (.cells #[.int .i64 m.f, .int .i64 m.t, .int .i64 m.s] 83)).cell? ⟨wr.heap.size, 0, none⟩ = some (.int .i64 m.f) ∧ (wr.alloc (.cells #[.int .i64 m.f, .int .i64 m.t, .int .i64 m.s] 83)).cell? ⟨wr.heap.size, 1, none⟩ = some (.int .i64 m.t) ∧ (wr.alloc (.cells #[.int .i64 m.f, .int .i64 m.t, .int .i64 m.s] 83)).cell? ⟨wr.heap.size, 2, none⟩ = some (.int .i64 m.s)) := by refine ⟨?_, ?_, ?_⟩ <;> simp
          clear hbA
          cases hb : mvB n f m with
          | true =>
            have HR : Hid (apE n z l = (7, (k : Int))) := by show _ = _; rw [HC.out, run_bad HS.out hm hb]
            rw [hb] at hft
            clear hb hm
            obtain ⟨mf, mt, ms⟩ := m
            simp only at x0 x1 x2
            go_wp2_with fail
            refine hft.mono ?_
            clear hft
            rintro e w3 ⟨rfl, hb3⟩
            have HF3 := Hid.mk' (HFA.out.later hb3)
            have e6 := HE6.out w3 HF3.out.1
            have hle3 := HF3.out.1.size
            clear hb3
            go_wp2_with fail
            go_region
            all_goals
              go_wp2_with fail
              go_ret2
              exact ⟨_, _, rfl, by rw [HR.out]; exact Or.inr ⟨_, rfl, by simp, by simp, by simp, by simp⟩, fun _ => rfl, (fun h => by rw [HR.out] at h; cases h), by first | exact (HF3.out.1.alloc hle3 _) | exact (HF3.out.1.alloc hle3 _).drew⟩
          | false =>
            have HSN := Hid.mk' (run_next HS.out hm hb)
            have HZN := Hid.mk' (mvS_right hb HZ.out)
            obtain ⟨y1, y2, y3, y4, y5, y6, y7⟩ := mvB_no hb
            rw [hb] at hft
            clear hb hm
            obtain ⟨mf, mt, ms⟩ := m
            simp only at x0 x1 x2 y1 y2 y3 y4 y5 y6 y7
            obtain ⟨i, rfl⟩ : ∃ i : Nat, mf = (i : Int) := ⟨mf.toNat, by omega⟩
            obtain ⟨j, rfl⟩ : ∃ j : Nat, mt = (j : Int) := ⟨mt.toNat, by omega⟩
            simp only [Int.toNat_natCast] at y7
            have hiN : i < n := by omega
            have hjN : j < n := by omega
            have hij : j ≠ i := by omega
            go_wp2_with fail
            refine hft.mono ?_
            clear hft
            rintro e w3 ⟨rfl, hb3⟩
            have HF3 := Hid.mk' (HFA.out.later hb3)
            obtain ⟨g, cp, hg, hfl⟩ := HF3.out.some (by omega)
            obtain ⟨rfl, rfl⟩ : ad2 = some ⟨g, 0, none⟩ ∧ cap2 = cp := by simpa using hg
            have hgw : g ≠ wr.heap.size := by
              intro e
              rcases HF.out.some (by omega) with ⟨g', cp', hg', hfl'⟩
              have e2 : g' = g := by have := hg'.symm; simp at this; exact this.1
              have := cell_lt (hfl'.row i hiN)
              simp only at this
              omega
            have q0 : w3.cell? ⟨wr.heap.size, 0, none⟩ = some (.int .i64 (i : Int)) := by rw [hb3.cell (cell_lt HBX.out.1)]; exact HBX.out.1
            have q1 : w3.cell? ⟨wr.heap.size, 1, none⟩ = some (.int .i64 (j : Int)) := by rw [hb3.cell (cell_lt HBX.out.2.1)]; exact HBX.out.2.1
            have q2 : w3.cell? ⟨wr.heap.size, 2, none⟩ = some (.int .i64 ms) := by rw [hb3.cell (cell_lt HBX.out.2.2)]; exact HBX.out.2.2
            have a1 := HZ.out i hiN
            have a2 := HZ.out j hjN
            have r1 := hfl.row i hiN
            have r2 := hfl.row j hjN
            have f1 := hfl.fz i hiN
            have f2 := hfl.fz j hjN
            rw [Nat.zero_add] at r1 r2 f1 f2
            obtain ⟨fi, hfi⟩ : ∃ x, x = f i := ⟨_, rfl⟩
            obtain ⟨fj, hfj⟩ : ∃ x, x = f j := ⟨_, rfl⟩
            rw [← hfi] at r1 a1 y7
            rw [← hfj] at r2 a2 y7
            have F4 := hfl.set hiN (fi - ms) (f' := setF f i (fi - ms)) (fun c _ => rfl)
            have F5 := F4.set hjN (fj + ms) (f' := mvS f ⟨(i : Int), (j : Int), ms⟩) (fun c _ => by rw [hfi, hfj]; rfl)
            have hne1 : (⟨g, i, none⟩ : Addr) ≠ ⟨wr.heap.size, 1, none⟩ := fun e => hgw (congrArg Addr.block e)
            have hne2 : (⟨g, i, none⟩ : Addr) ≠ ⟨wr.heap.size, 2, none⟩ := fun e => hgw (congrArg Addr.block e)
            have s1 : (w3.setCell ⟨g, i, none⟩ (.int .i64 (fi - ms))).cell? ⟨wr.heap.size, 1, none⟩ = some (.int .i64 (j : Int)) := by rw [World.cell?_setCell_other _ _ _ _ hne1]; exact q1
            have s2 : (w3.setCell ⟨g, i, none⟩ (.int .i64 (fi - ms))).cell? ⟨wr.heap.size, 2, none⟩ = some (.int .i64 ms) := by rw [World.cell?_setCell_other _ _ _ _ hne2]; exact q2
            have s3 : (w3.setCell ⟨g, i, none⟩ (.int .i64 (fi - ms))).cell? ⟨g, j, none⟩ = some (.int .i64 fj) := by
              rw [World.cell?_setCell_other _ _ _ _ (fun e => hij (by have := congrArg Addr.off e; simp at this; omega))]; exact r2
            have s4 : (w3.setCell ⟨g, i, none⟩ (.int .i64 (fi - ms))).frozen? ⟨g, j, none⟩ = false := by rw [World.frozen?_setCell]; exact f2
            have HF5 := Hid.mk' F5
            clear hb3 hg hfl hgw F4 F5 hne1 hne2 hfi hfj HFA
            go_wp2_with fail
            go_region
            go_wp2_with fail
            go_region
            go_wp2_with fail
            exact ⟨⟨k + 1, mvS f ⟨(i : Int), (j : Int), ms⟩, h3, by go_num, ⟨HF5.out.drew.drew.below, Or.inr ⟨g, cap2, rfl, HF5.out.drew.drew⟩⟩, HZN.out, HSN.out⟩, by simp [intOf]; omega⟩
        · obtain rfl : k = l.length := by omega
          have hkI : ¬ (l.length : Int) < (l.length : Int) := by omega
          have HR0 := Hid.mk' (run_end HS.out)
          have HR : Hid (apE n z l = (0, -1)) := by show _ = _; rw [HC.out, HR0.out]
          have HV : Hid (apZ n z l = f) := by show _ = _; unfold apZ; rw [HR0.out]
          go_wp2_with fail
          go_ret2
          exact ⟨_, _, rfl, by rw [HR.out]; exact Or.inl ⟨rfl, rfl, by decide⟩, (fun h => absurd (by rw [HR.out]) h), (fun _ => by rw [HV.out]; exact HF.out.nums), HF.out.1⟩
end Go.Proofs.YtgaamcmjonngjaaDoor

/- HARDY, LITTLEWOOD and POLYA: the moves from one list to another one that it is above. -/
namespace Go.Proofs.YtgaamcmjonngjaaDoor

/-- How many are not 0. -/
def nzN (d : Nat → Int) : Nat → Nat
  | 0 => 0
  | k + 1 => nzN d k + if d k = 0 then 0 else 1
theorem nz_le (d : Nat → Int) : ∀ n, nzN d n ≤ n
  | 0 => Nat.le_refl _
  | n + 1 => by have := nz_le d n; unfold nzN; split <;> omega
theorem nz_zero {d : Nat → Int} : ∀ {n : Nat}, nzN d n = 0 → ∀ k, k < n → d k = 0
  | 0, _, k, hk => by omega
  | n + 1, h, k, hk => by
    unfold nzN at h
    by_cases h1 : d n = 0
    · rw [if_pos h1] at h
      rcases Nat.lt_or_ge k n with h2 | h2
      · exact nz_zero (by omega) k h2
      · obtain rfl : k = n := by omega
        exact h1
    · rw [if_neg h1] at h; omega
theorem sum_zeroO {d : Nat → Int} : ∀ {n : Nat}, (∀ k, k < n → d k = 0) → sumN d n = 0
  | 0, _ => rfl
  | n + 1, h => by show sumN d n + d n = 0; rw [sum_zeroO (fun k hk => h k (by omega)), h n (by omega)]; rfl
theorem nz_one {d : Nat → Int} : ∀ {n : Nat}, nzN d n = 1 → sumN d n ≠ 0
  | 0, h => by simp [nzN] at h
  | n + 1, h => by
    unfold nzN at h
    show sumN d n + d n ≠ 0
    by_cases h1 : d n = 0
    · rw [if_pos h1] at h
      have := nz_one (d := d) (n := n) (by omega)
      omega
    · rw [if_neg h1] at h
      rw [sum_zeroO (nz_zero (by omega))]
      omega
theorem nz_mono {d d' : Nat → Int} : ∀ {n : Nat}, (∀ k, k < n → d' k ≠ 0 → d k ≠ 0) → nzN d' n ≤ nzN d n
  | 0, _ => Nat.le_refl _
  | n + 1, h => by
    have h1 := nz_mono (d := d) (d' := d') (n := n) (fun k hk => h k (by omega))
    have h2 := h n (by omega)
    unfold nzN
    by_cases e : d' n = 0
    · rw [if_pos e]; split <;> omega
    · rw [if_neg e, if_neg (h2 e)]; omega
theorem nz_lt {d d' : Nat → Int} : ∀ {n k0 : Nat}, (∀ k, k < n → d' k ≠ 0 → d k ≠ 0) → k0 < n → d k0 ≠ 0 → d' k0 = 0 → nzN d' n + 1 ≤ nzN d n
  | 0, _, _, h, _, _ => by omega
  | n + 1, k0, h, hk, h1, h2 => by
    have hn := h n (by omega)
    unfold nzN
    rcases Nat.lt_or_ge k0 n with h3 | h3
    · have ih := nz_lt (d := d) (d' := d') (n := n) (k0 := k0) (fun k hk => h k (by omega)) h3 h1 h2
      by_cases e : d' n = 0
      · rw [if_pos e]; split <;> omega
      · rw [if_neg e, if_neg (hn e)]; omega
    · obtain rfl : k0 = n := by omega
      have := nz_mono (d := d) (d' := d') (n := k0) (fun k hk => h k (by omega))
      rw [if_pos h2, if_neg h1]; omega
theorem sumN_set (d : Nat → Int) (i : Nat) (x : Int) : ∀ k, sumN (setF d i x) k = sumN d k + if i < k then x - d i else 0
  | 0 => by simp [sumN]
  | k + 1 => by
    show sumN (setF d i x) k + setF d i x k = sumN d k + d k + _
    rw [sumN_set d i x k]
    unfold setF
    by_cases h : k = i
    · subst h
      rw [if_pos rfl, if_neg (by omega), if_pos (by omega)]; omega
    · rw [if_neg h]
      by_cases h2 : i < k
      · rw [if_pos h2, if_pos (by omega)]; omega
      · rw [if_neg h2, if_neg (by omega)]; omega
theorem run_snoc (n : Nat) (m : MvI) : ∀ (l : List MvI) (z f : Nat → Int) (k : Nat), runM n z l k = .inr f → mvB n f m = false → runM n z (l ++ [m]) k = .inr (mvS f m)
  | [], z, f, k, h, hb => by
    obtain rfl : z = f := by simpa [runM] using h
    show (if mvB n z m = true then _ else _) = _
    rw [hb, if_neg (by decide)]; rfl
  | c :: l, z, f, k, h, hb => by
    have h1 : (if mvB n z c = true then Sum.inl k else runM n (mvS z c) l (k + 1)) = .inr f := h
    show (if mvB n z c = true then Sum.inl k else runM n (mvS z c) (l ++ [m]) (k + 1)) = _
    by_cases hc : mvB n z c = true
    · rw [if_pos hc] at h1; cases h1
    · rw [if_neg hc] at h1 ⊢
      exact run_snoc n m l _ f _ h1 hb
theorem perm_inj {D : List Nat} {n i j : Nat} (h : D.Perm (List.range n)) (hi : i < n) (hj : j < n) (e : D.getD i 0 = D.getD j 0) : i = j := by
  have hl : D.length = n := by rw [h.length_eq, List.length_range]
  have hd : D.Nodup := h.nodup_iff.2 List.nodup_range
  rw [List.getD_eq_getElem?_getD, List.getD_eq_getElem?_getD, List.getElem?_eq_getElem (by omega), List.getElem?_eq_getElem (by omega)] at e
  simp only [Option.getD_some] at e
  have hp := List.pairwise_iff_getElem.1 hd
  rcases Nat.lt_trichotomy i j with h1 | h1 | h1
  · exact absurd e (hp i j (by omega) (by omega) h1)
  · exact h1
  · exact absurd e.symm (hp j i (by omega) (by omega) h1)
theorem perm_lt' {D : List Nat} {n j : Nat} (h : D.Perm (List.range n)) (hj : j < n) : D.getD j 0 < n := by
  have hl : D.length = n := by rw [h.length_eq, List.length_range]
  have hm : D.getD j 0 ∈ D := by
    rw [List.getD_eq_getElem?_getD, List.getElem?_eq_getElem (by omega)]
    exact List.getElem_mem _
  exact List.mem_range.1 (h.mem_iff.1 hm)

theorem mvB_of {n : Nat} {z : Nat → Int} {i j : Nat} {s : Int} (hi : i < n) (hj : j < n) (hij : i ≠ j) (h0 : 0 ≤ s) (hs : s ≤ z i - z j) : mvB n z ⟨(i : Int), (j : Int), s⟩ = false := by
  simp [mvB]
  omega
/-- Where Moves stands: from, tq, what each has too much, the moves so far. -/
structure MvJ (n : Nat) (p q : Nat → Int) (D : List Nat) (fr tq : Nat) (d : Nat → Int) (ml : List MvI) : Prop where
  ft : fr ≤ tq
  neg : ∀ k, k < tq → 0 ≤ d k
  zer : ∀ k, k < fr → d k = 0
  sum : ∀ k, k ≤ n → 0 ≤ sumN d k
  tot : sumN d n = 0
  bnd : ∀ k, k < n → -4096 ≤ d k ∧ d k ≤ 4096
  cur : ∃ c, runM n p ml 0 = .inr c ∧ ∀ k, k < n → c (D.getD k 0) = atF (fallL q n) k + d k
  cnt : (nzN d n = 0 ∧ ml.length + 1 ≤ n) ∨ (2 ≤ nzN d n ∧ ml.length + nzN d n ≤ n)
theorem MvJ.start {n : Nat} {p q : Nat → Int} {D : List Nat} (h0 : 0 < n) (hm : D.map p = fallL p n) (hp : ∀ k, k < n → 0 ≤ p k ∧ p k ≤ 4096) (hq : ∀ k, k < n → 0 ≤ q k ∧ q k ≤ 4096) (hs : sumN p n = sumN q n) (hd : dipN (surF p q n) n = false) : MvJ n p q D 0 0 (surF p q n) [] := by
  have ht : sumN (surF p q n) n = 0 := by rw [sur_sum, fall_sum, fall_sum]; omega
  refine ⟨Nat.le_refl _, fun k hk => by omega, fun k hk => by omega, dipN_none hd, ht, fun k hk => ?_, ⟨p, rfl, fun k hk => ?_⟩, ?_⟩
  · have h1 := fall_right hp hk
    have h2 := fall_right hq hk
    unfold surF; omega
  · rw [fall_at hm hk]; unfold surF; omega
  · rcases Nat.eq_zero_or_pos (nzN (surF p q n) n) with h | h
    · exact Or.inl ⟨h, by simp; omega⟩
    · refine Or.inr ⟨?_, by simpa using nz_le _ _⟩
      rcases Nat.lt_or_ge 1 (nzN (surF p q n) n) with h2 | h2
      · omega
      · exact absurd ht (nz_one (by omega))
theorem MvJ.next {n : Nat} {p q : Nat → Int} {D : List Nat} {fr tq : Nat} {d : Nat → Int} {ml : List MvI} (h : MvJ n p q D fr tq d ml) (hd : ¬ d tq < 0) : MvJ n p q D fr (tq + 1) d ml :=
  ⟨by have := h.ft; omega, fun k hk => by
    rcases Nat.lt_or_ge k tq with h1 | h1
    · exact h.neg k h1
    · obtain rfl : k = tq := by omega
      omega, h.zer, h.sum, h.tot, h.bnd, h.cur, h.cnt⟩
theorem MvJ.lt {n : Nat} {p q : Nat → Int} {D : List Nat} {fr tq : Nat} {d : Nat → Int} {ml : List MvI} (h : MvJ n p q D fr tq d ml) (hto : tq < n) (hd : d tq < 0) : fr < tq := by
  rcases Nat.lt_or_ge fr tq with h1 | h1
  · exact h1
  · have e : fr = tq := by have := h.ft; omega
    have h2 := h.sum (tq + 1) hto
    have h3 : sumN d tq = 0 := sum_zeroO (fun k hk => h.zer k (by omega))
    simp only [sumN] at h2
    omega
theorem MvJ.skip {n : Nat} {p q : Nat → Int} {D : List Nat} {fr tq : Nat} {d : Nat → Int} {ml : List MvI} (h : MvJ n p q D fr tq d ml) (hto : tq < n) (hd : d tq < 0) (hf : d fr ≤ 0) : MvJ n p q D (fr + 1) tq d ml := by
  have hlt := h.lt hto hd
  refine ⟨hlt, h.neg, fun k hk => ?_, h.sum, h.tot, h.bnd, h.cur, h.cnt⟩
  rcases Nat.lt_or_ge k fr with h1 | h1
  · exact h.zer k h1
  · obtain rfl : k = fr := by omega
    have := h.neg k hlt
    omega
/-- The move that is made. -/
def mvM (D : List Nat) (fr tq : Nat) (s : Int) : MvI := ⟨(D.getD fr 0 : Nat), (D.getD tq 0 : Nat), s⟩
theorem MvJ.move {n : Nat} {p q : Nat → Int} {D : List Nat} {fr tq : Nat} {d : Nat → Int} {ml : List MvI} (h : MvJ n p q D fr tq d ml) (hD : D.Perm (List.range n)) (hto : tq < n) (hd : d tq < 0) (hf : 0 < d fr) (s : Int) (hs1 : s ≤ d fr) (hs2 : s ≤ - d tq) (hs3 : s = d fr ∨ s = - d tq) :
    MvJ n p q D fr tq (setF (setF d fr (d fr - s)) tq (d tq + s)) (ml ++ [mvM D fr tq s]) := by
  have hlt := h.lt hto hd
  have hs0 : 0 < s := by omega
  have ne : tq ≠ fr := by omega
  have hto' : setF d fr (d fr - s) tq = d tq := setF_other ne
  have vF : setF (setF d fr (d fr - s)) tq (d tq + s) fr = d fr - s := by rw [setF_other (by omega), setF_at]
  have vT : setF (setF d fr (d fr - s)) tq (d tq + s) tq = d tq + s := setF_at _ _ _
  have vO : ∀ k, k ≠ fr → k ≠ tq → setF (setF d fr (d fr - s)) tq (d tq + s) k = d k := fun k h1 h2 => by rw [setF_other h2, setF_other h1]
  have hsum : ∀ k, sumN (setF (setF d fr (d fr - s)) tq (d tq + s)) k = sumN d k + (if fr < k then - s else 0) + (if tq < k then s else 0) := fun k => by
    rw [sumN_set, sumN_set, hto']
    by_cases h1 : fr < k
    · rw [if_pos h1, if_pos h1]
      by_cases h2 : tq < k
      · rw [if_pos h2, if_pos h2]; omega
      · rw [if_neg h2, if_neg h2]; omega
    · rw [if_neg h1, if_neg h1, if_neg (by omega), if_neg (by omega)]
  have htot : sumN (setF (setF d fr (d fr - s)) tq (d tq + s)) n = 0 := by rw [hsum, if_pos (by omega), if_pos hto, h.tot]; omega
  have hneg : ∀ k, k < tq → 0 ≤ setF (setF d fr (d fr - s)) tq (d tq + s) k := fun k hk => by
    by_cases e : k = fr
    · rw [e, vF]; omega
    · rw [vO k e (by omega)]; exact h.neg k hk
  have hnz : nzN (setF (setF d fr (d fr - s)) tq (d tq + s)) n + 1 ≤ nzN d n := by
    have hm : ∀ k, k < n → setF (setF d fr (d fr - s)) tq (d tq + s) k ≠ 0 → d k ≠ 0 := fun k _ hk => by
      by_cases e1 : k = fr
      · rw [e1]; omega
      · by_cases e2 : k = tq
        · rw [e2]; omega
        · rw [vO k e1 e2] at hk; exact hk
    rcases hs3 with e | e
    · exact nz_lt hm (show fr < n by omega) (by omega) (by rw [vF]; omega)
    · exact nz_lt hm hto (by omega) (by rw [vT]; omega)
  refine ⟨h.ft, hneg, fun k hk => by rw [vO k (by omega) (by omega)]; exact h.zer k hk, fun k hk => ?_, htot, fun k hk => ?_, ?_, ?_⟩
  · rcases Nat.lt_or_ge tq k with h1 | h1
    · rw [hsum, if_pos (by omega), if_pos h1]
      have := h.sum k hk
      omega
    · exact sumN_nonneg (fun i hi => hneg i (by omega))
  · have b := h.bnd k hk
    have bf := h.bnd fr (by omega)
    have bt := h.bnd tq hto
    by_cases e1 : k = fr
    · rw [e1, vF]; omega
    · by_cases e2 : k = tq
      · rw [e2, vT]; omega
      · rw [vO k e1 e2]; exact b
  · obtain ⟨c, hr, hc⟩ := h.cur
    have hcf := hc fr (by omega)
    have hct := hc tq hto
    have hq := atF_down (fallL_down q n) (i := fr) (j := tq) (by omega) (by rw [fallL_length]; exact hto)
    have hne : D.getD tq 0 ≠ D.getD fr 0 := fun e => ne (perm_inj hD hto (by omega) e)
    have l1 := perm_lt' hD (show fr < n by omega)
    have l2 := perm_lt' hD hto
    have hb : mvB n c (mvM D fr tq s) = false := by
      exact mvB_of l1 l2 (fun e => hne e.symm) (by omega) (by rw [hcf, hct]; omega)
    refine ⟨_, run_snoc n _ ml p c 0 hr hb, fun k hk => ?_⟩
    simp only [mvS, mvM, Int.toNat_natCast]
    by_cases e2 : k = tq
    · subst e2
      rw [setF_at, vT, hct]; omega
    · have hne2 : D.getD k 0 ≠ D.getD tq 0 := fun e => e2 (perm_inj hD hk hto e)
      rw [setF_other hne2]
      by_cases e1 : k = fr
      · subst e1
        rw [setF_at, vF, hcf]; omega
      · have hne1 : D.getD k 0 ≠ D.getD fr 0 := fun e => e1 (perm_inj hD hk (by omega) e)
        rw [setF_other hne1, vO k e1 e2]
        exact hc k hk
  · rw [List.length_append]
    show (_ ∧ ml.length + 1 + 1 ≤ n) ∨ (_ ∧ ml.length + 1 + _ ≤ n)
    rcases h.cnt with ⟨h1, _⟩ | ⟨h1, h2⟩
    · omega
    · rcases Nat.eq_zero_or_pos (nzN (setF (setF d fr (d fr - s)) tq (d tq + s)) n) with h3 | h3
      · exact Or.inl ⟨h3, by omega⟩
      · refine Or.inr ⟨?_, by omega⟩
        rcases Nat.lt_or_ge 1 (nzN (setF (setF d fr (d fr - s)) tq (d tq + s)) n) with h4 | h4
        · omega
        · exact absurd htot (nz_one (by omega))
/-- What the moves are to be. -/
def MvOk (n : Nat) (p q : Nat → Int) (ml : List MvI) : Prop := ml.length + 1 ≤ n ∧ ∃ c, runM n p ml 0 = .inr c ∧ fallL c n = fallL q n
theorem MvJ.len {n : Nat} {p q : Nat → Int} {D : List Nat} {fr tq : Nat} {d : Nat → Int} {ml : List MvI} (h : MvJ n p q D fr tq d ml) : ml.length + 1 ≤ n := by
  rcases h.cnt with ⟨_, h1⟩ | ⟨h1, h2⟩ <;> omega
theorem sum_nonneg_zero {d : Nat → Int} : ∀ {n : Nat}, (∀ k, k < n → 0 ≤ d k) → sumN d n = 0 → ∀ k, k < n → d k = 0
  | 0, _, _, k, hk => by omega
  | n + 1, h, hs, k, hk => by
    have h1 := sumN_nonneg (z := d) (n := n) (fun i hi => h i (by omega))
    have h2 := h n (by omega)
    simp only [sumN] at hs
    rcases Nat.lt_or_ge k n with h3 | h3
    · exact sum_nonneg_zero (fun i hi => h i (by omega)) (by omega) k h3
    · obtain rfl : k = n := by omega
      omega
theorem MvJ.done {n : Nat} {p q : Nat → Int} {D : List Nat} {fr : Nat} {d : Nat → Int} {ml : List MvI} (h : MvJ n p q D fr n d ml) (hD : D.Perm (List.range n)) : MvOk n p q ml := by
  refine ⟨h.len, ?_⟩
  obtain ⟨c, hr, hc⟩ := h.cur
  refine ⟨c, hr, ?_⟩
  have hz := sum_nonneg_zero h.neg h.tot
  have hl : D.length = n := by rw [hD.length_eq, List.length_range]
  have hm : D.map c = fallL q n := by
    refine List.ext_getElem (by rw [List.length_map, fallL_length, hl]) (fun i h1 h2 => ?_)
    have hi : i < n := by rw [List.length_map] at h1; omega
    have := hc i hi
    rw [hz i hi] at this
    simp [List.getD, hl, hi, atF, fallL_length] at this
    simpa using this
  refine List.Perm.eq_of_pairwise (le := fun a b => b ≤ a) (fun a b _ _ h1 h2 => by omega) (fallL_down c n) (fallL_down q n) ?_
  rw [← hm]
  exact (fallL_perm c n).trans (hD.map c).symm
end Go.Proofs.YtgaamcmjonngjaaDoor

/- SCHUR: what a move leaves is majorized, and the product of all numbers to their own powers is no greater. -/
namespace Go.Proofs.YtgaamcmjonngjaaDoor

/-- A number to its own power. -/
def selfP (x : Nat) : Nat := x ^ x
theorem selfP_pos (x : Nat) : 0 < selfP x := by
  unfold selfP
  rcases Nat.eq_zero_or_pos x with e | e
  · rw [e]; decide
  · exact Nat.pow_pos e
def cvxAll : Nat → Bool
  | 0 => true
  | n + 1 => Nat.ble (selfP (n + 1) * selfP (n + 1)) (selfP (n + 2) * selfP n) && cvxAll n
theorem cvxAll_at : ∀ {n k : Nat}, cvxAll n = true → k < n → selfP (k + 1) * selfP (k + 1) ≤ selfP (k + 2) * selfP k
  | n + 1, k, hn, h => by
    rw [cvxAll, Bool.and_eq_true] at hn
    rcases Nat.lt_or_ge k n with h1 | h1
    · exact cvxAll_at hn.2 h1
    · obtain rfl : k = n := by omega
      exact Nat.le_of_ble_eq_true hn.1
theorem cvx_table : cvxAll 4096 = true := by decide +kernel
/-- A unit from the greater one to the lesser one. -/
theorem unit_le {b : Nat} : ∀ a, b + 1 ≤ a → a ≤ 4097 → selfP (a - 1) * selfP (b + 1) ≤ selfP a * selfP b := by
  intro a
  induction a with
  | zero => intro h; omega
  | succ a ih =>
    intro h1 h2
    rcases Nat.eq_or_lt_of_le h1 with e | h3
    · obtain rfl : b = a := by omega
      rw [Nat.add_sub_cancel, Nat.mul_comm]
      exact Nat.le_refl _
    · have h4 := ih (by omega) (by omega)
      obtain ⟨c, rfl⟩ : ∃ c, a = c + 1 := ⟨a - 1, by omega⟩
      have h5 := cvxAll_at (n := 4096) (k := c) cvx_table (by omega)
      rw [Nat.add_sub_cancel] at h4 ⊢
      -- selfP c * selfP (b+1) <= selfP (c+1) * selfP b; selfP (c+1)^2 <= selfP (c+2) * selfP c
      have p0 := selfP_pos c
      have p1 := selfP_pos (c + 1)
      have h6 : (selfP c * selfP (c + 1)) * (selfP (c + 1) * selfP (b + 1)) ≤ (selfP c * selfP (c + 1)) * (selfP (c + 1 + 1) * selfP b) := by
        have h7 := Nat.mul_le_mul h4 h5
        have e1 : (selfP c * selfP (c + 1)) * (selfP (c + 1) * selfP (b + 1)) = selfP c * selfP (b + 1) * (selfP (c + 1) * selfP (c + 1)) := by simp only [Nat.mul_assoc, Nat.mul_left_comm, Nat.mul_comm]
        have e2 : (selfP c * selfP (c + 1)) * (selfP (c + 1 + 1) * selfP b) = selfP (c + 1) * selfP b * (selfP (c + 2) * selfP c) := by simp only [Nat.mul_assoc, Nat.mul_left_comm, Nat.mul_comm]
        rw [e1, e2]; exact h7
      exact Nat.le_of_mul_le_mul_left h6 (Nat.mul_pos p0 p1)
theorem half_le (a b : Nat) (ha : a ≤ 4097) : ∀ s, b + 2 * s ≤ a → selfP (a - s) * selfP (b + s) ≤ selfP a * selfP b
  | 0, _ => Nat.le_refl _
  | s + 1, h => by
    have h1 := half_le a b ha s (by omega)
    have h2 := unit_le (b := b + s) (a - s) (by omega) (by omega)
    rw [show a - s - 1 = a - (s + 1) by omega, show b + s + 1 = b + (s + 1) by omega] at h2
    exact Nat.le_trans h2 h1
/-- As much as one likes, up to the distance. -/
theorem schur_le {a b s : Nat} (ha : a ≤ 4097) (h : b + s ≤ a) : selfP (a - s) * selfP (b + s) ≤ selfP a * selfP b := by
  rcases Nat.lt_or_ge (a - b) (2 * s) with h1 | h1
  · have h2 := half_le a b ha (a - b - s) (by omega)
    rw [show a - (a - b - s) = b + s by omega, show b + (a - b - s) = a - s by omega, Nat.mul_comm] at h2
    exact h2
  · exact half_le a b ha s (by omega)
def prdO (z : Nat → Int) : Nat → Nat
  | 0 => 1
  | m + 1 => prdO z m * selfP (z m).toNat
theorem prdO_pos (z : Nat → Int) : ∀ m, 0 < prdO z m
  | 0 => Nat.one_pos
  | m + 1 => Nat.mul_pos (prdO_pos z m) (selfP_pos _)
theorem prdO_set (z : Nat → Int) (i : Nat) (x : Int) : ∀ m, i < m → prdO (setF z i x) m * selfP (z i).toNat = prdO z m * selfP x.toNat
  | 0, h => by omega
  | m + 1, h => by
    have e : ∀ k, k ≤ i → prdO (setF z i x) k = prdO z k := fun k => by
      induction k with
      | zero => intro _; rfl
      | succ k ih => intro hk; rw [prdO, prdO, ih (by omega), setF_other (by omega)]
    rw [prdO, prdO]
    rcases Nat.lt_or_ge i m with h1 | h1
    · have ih := prdO_set z i x m h1
      rw [setF_other (show m ≠ i by omega), Nat.mul_right_comm, ih, Nat.mul_right_comm]
    · obtain rfl : i = m := by omega
      rw [setF_at, e i (Nat.le_refl _), Nat.mul_right_comm]
theorem move_prd {n : Nat} {z : Nat → Int} {m : MvI} (hb : mvB n z m = false) (hz : ∀ k, k < n → 0 ≤ z k ∧ z k ≤ 4096) : prdO (mvS z m) n ≤ prdO z n := by
  obtain ⟨h1, h2, h3, h4, h5, h6, h7⟩ := mvB_no hb
  obtain ⟨f, t, s⟩ := m
  simp only at h1 h2 h3 h4 h5 h6 h7
  obtain ⟨i, rfl⟩ : ∃ i : Nat, f = (i : Int) := ⟨f.toNat, by omega⟩
  obtain ⟨j, rfl⟩ : ∃ j : Nat, t = (j : Int) := ⟨t.toNat, by omega⟩
  simp only [Int.toNat_natCast] at h7
  have hij : j ≠ i := by omega
  have a := hz i (by omega)
  have b := hz j (by omega)
  show prdO (setF (setF z i (z i - s)) j (z j + s)) n ≤ _
  have e1 := prdO_set z i (z i - s) n (by omega)
  have e2 := prdO_set (setF z i (z i - s)) j (z j + s) n (by omega)
  rw [setF_other hij] at e2
  have hs := schur_le (a := (z i).toNat) (b := (z j).toNat) (s := s.toNat) (by omega) (by omega)
  rw [show (z i).toNat - s.toNat = (z i - s).toNat by omega, show (z j).toNat + s.toNat = (z j + s).toNat by omega] at hs
  have p := Nat.mul_pos (selfP_pos (z i).toNat) (selfP_pos (z j).toNat)
  refine Nat.le_of_mul_le_mul_left (c := selfP (z i).toNat * selfP (z j).toNat) ?_ p
  have e3 : selfP (z i).toNat * selfP (z j).toNat * prdO (setF (setF z i (z i - s)) j (z j + s)) n = prdO z n * (selfP (z i - s).toNat * selfP (z j + s).toNat) := by
    have : selfP (z i).toNat * selfP (z j).toNat * prdO (setF (setF z i (z i - s)) j (z j + s)) n = selfP (z i).toNat * (prdO (setF (setF z i (z i - s)) j (z j + s)) n * selfP (z j).toNat) := by simp only [Nat.mul_assoc, Nat.mul_comm]
    rw [this, e2]
    have : selfP (z i).toNat * (prdO (setF z i (z i - s)) n * selfP (z j + s).toNat) = (prdO (setF z i (z i - s)) n * selfP (z i).toNat) * selfP (z j + s).toNat := by simp only [Nat.mul_left_comm, Nat.mul_comm]
    rw [this, e1, Nat.mul_assoc]
  rw [e3, Nat.mul_comm (selfP (z i).toNat * selfP (z j).toNat)]
  exact Nat.mul_le_mul_left _ hs

/-- A table whose rows and columns have one sum, of whatever size. -/
theorem spread_topG {R : Nat} {zs : Nat → Nat → Int} {w : Nat → Int} {S : Int} (hnum : ∀ i, i < R → ∀ c, c < R → 0 ≤ zs i c) (hrow : ∀ i, i < R → sumN (zs i) R = S) (hcol : ∀ c, c < R → sumN (fun r => zs r c) R = S) {k : Nat} (hk : k ≤ R) : sumN (atF (fallL (sprF R zs w) R)) k ≤ S * sumN (atF (fallL w R)) k := by
  obtain ⟨D, hD, hDm⟩ := fall_places (sprF R zs w) R
  obtain ⟨E, hE, hEm⟩ := fall_places w R
  have e1 : sumN (atF (fallL (sprF R zs w) R)) k = sumN (fun j => sumN (fun c => zs (D.getD j 0) c * w c) R) k := sumN_congr fun j hj => by
    rw [← fall_at hDm (show j < R by omega)]; rfl
  have e2 := sumN_swap (fun j c => zs (D.getD j 0) c * w c) R k
  have e3 : sumN (fun c => sumN (fun j => zs (D.getD j 0) c * w c) k) R = sumN (fun c => sumN (fun j => zs (D.getD j 0) c) k * w c) R := sumN_congr fun c _ => sumN_mulr _ _ _
  have e4 := sum_perm hE (fun c => sumN (fun j => zs (D.getD j 0) c) k * w c)
  have e5 : sumN (fun j => sumN (fun i => zs (D.getD i 0) (E.getD j 0)) k * w (E.getD j 0)) R = sumN (fun j => sumN (fun i => zs (D.getD i 0) (E.getD j 0)) k * atF (fallL w R) j) R := sumN_congr fun j hj => by rw [fall_at hEm hj]
  have hx : ∀ j, j < R → 0 ≤ sumN (fun i => zs (D.getD i 0) (E.getD j 0)) k ∧ sumN (fun i => zs (D.getD i 0) (E.getD j 0)) k ≤ S := fun j hj => by
    have hc := perm_lt hE hj
    have hp : ∀ i, i < R → 0 ≤ zs (D.getD i 0) (E.getD j 0) := fun i hi => hnum _ (perm_lt hD hi) _ hc
    refine ⟨sumN_nonneg fun i hi => hp i (by omega), ?_⟩
    have h1 := sumN_mono (z := fun i => zs (D.getD i 0) (E.getD j 0)) (k := k) (n := R) hp hk
    have h2 := sum_perm hD (fun r => zs r (E.getD j 0))
    have h3 := hcol _ hc
    omega
  have hs : sumN (fun j => sumN (fun i => zs (D.getD i 0) (E.getD j 0)) k) R = (k : Int) * S := by
    rw [sum_perm hE (fun c => sumN (fun i => zs (D.getD i 0) c) k), ← sumN_swap (fun i c => zs (D.getD i 0) c) R k, sumN_congr (z' := fun _ => S) (fun i hi => ?_), sumN_const]
    exact hrow _ (perm_lt hD (show i < R by omega))
  have hfin := part_le hk hx (fun i j hij hj => atF_down (fallL_down w R) hij (by rw [fallL_length]; exact hj)) hs
  rw [e1, e2, e3, ← e4, e5]
  exact hfin
theorem fallL_congr {z z' : Nat → Int} : ∀ {n : Nat}, (∀ i, i < n → z i = z' i) → fallL z n = fallL z' n
  | 0, _ => rfl
  | n + 1, h => by rw [fallL, fallL, fallL_congr (fun i hi => h i (by omega)), h n (by omega)]
theorem sumN_setm (g w : Nat → Int) (i : Nat) (x : Int) : ∀ n, sumN (fun c => setF g i x c * w c) n = sumN (fun c => g c * w c) n + if i < n then (x - g i) * w i else 0
  | 0 => by simp [sumN]
  | n + 1 => by
    show sumN (fun c => setF g i x c * w c) n + setF g i x n * w n = (sumN (fun c => g c * w c) n + g n * w n) + _
    rw [sumN_setm g w i x n]
    unfold setF
    by_cases h : n = i
    · subst h
      rw [if_pos rfl, if_neg (by omega), if_pos (by omega), Int.sub_mul]; omega
    · rw [if_neg h]
      by_cases h2 : i < n
      · rw [if_pos h2, if_pos (by omega)]; omega
      · rw [if_neg h2, if_neg (by omega)]; omega
theorem setF_nonneg {z : Nat → Int} {i : Nat} {x : Int} (hz : ∀ c, 0 ≤ z c) (hx : 0 ≤ x) (c : Nat) : 0 ≤ setF z i x c := by
  unfold setF
  split
  · exact hx
  · exact hz c
/-- The table of a move. -/
def mvT (i j : Nat) (D s : Int) (r : Nat) : Nat → Int :=
  if r = i then setF (setF (fun _ => 0) i (D - s)) j s else if r = j then setF (setF (fun _ => 0) j (D - s)) i s else setF (fun _ => 0) r D
theorem mvT_sym {i j : Nat} (hij : j ≠ i) (D s : Int) (r c : Nat) : mvT i j D s r c = mvT i j D s c r := by
  unfold mvT setF
  by_cases h1 : r = i <;> by_cases h2 : r = j <;> by_cases h3 : c = i <;> by_cases h4 : c = j <;> simp_all <;> (try omega)
  all_goals (split <;> split <;> simp_all)
theorem move_below {n : Nat} {z : Nat → Int} {m : MvI} (hb : mvB n z m = false) {k : Nat} (hk : k ≤ n) : sumN (atF (fallL (mvS z m) n)) k ≤ sumN (atF (fallL z n)) k := by
  obtain ⟨h1, h2, h3, h4, h5, h6, h7⟩ := mvB_no hb
  obtain ⟨f, t, s⟩ := m
  simp only at h1 h2 h3 h4 h5 h6 h7
  obtain ⟨i, rfl⟩ : ∃ i : Nat, f = (i : Int) := ⟨f.toNat, by omega⟩
  obtain ⟨j, rfl⟩ : ∃ j : Nat, t = (j : Int) := ⟨t.toNat, by omega⟩
  simp only [Int.toNat_natCast] at h7
  have hi : i < n := by omega
  have hj : j < n := by omega
  have hij : j ≠ i := by omega
  show sumN (atF (fallL (setF (setF z i (z i - s)) j (z j + s)) n)) k ≤ _
  obtain ⟨D, hD⟩ : ∃ D, D = z i - z j := ⟨_, rfl⟩
  rcases (show 0 < D ∨ D ≤ 0 by omega) with hpos | hpos
  · have z0 : ∀ (r : Nat) (x : Int), sumN (setF (fun _ => 0) r x) n = if r < n then x else 0 := fun r x => by
      rw [sumN_set, sumN_const]; simp
    have hrow : ∀ r, r < n → sumN (mvT i j D s r) n = D := fun r hr => by
      unfold mvT
      by_cases e1 : r = i
      · rw [if_pos e1, sumN_set, sumN_set, sumN_const, setF_other hij, if_pos hi, if_pos hj]; omega
      · rw [if_neg e1]
        by_cases e2 : r = j
        · rw [if_pos e2, sumN_set, sumN_set, sumN_const, setF_other (show i ≠ j by omega), if_pos hi, if_pos hj]; omega
        · rw [if_neg e2, z0, if_pos hr]
    have hcol : ∀ c, c < n → sumN (fun r => mvT i j D s r c) n = D := fun c hc => by
      exact (sumN_congr fun r _ => mvT_sym hij D s r c).trans (hrow c hc)
    have hnum : ∀ r, r < n → ∀ c, c < n → 0 ≤ mvT i j D s r c := fun r _ c _ => by
      unfold mvT
      split
      · exact setF_nonneg (fun c => setF_nonneg (fun _ => Int.le_refl _) (by omega) c) h6 c
      · split
        · exact setF_nonneg (fun c => setF_nonneg (fun _ => Int.le_refl _) (by omega) c) h6 c
        · exact setF_nonneg (fun _ => Int.le_refl _) (by omega) c
    have hspr : ∀ r, r < n → sprF n (mvT i j D s) z r = setF (setF z i (z i - s)) j (z j + s) r * D := fun r hr => by
      unfold sprF mvT
      by_cases e1 : r = i
      · subst e1
        rw [if_pos rfl, sumN_setm, sumN_setm, setF_other hij, if_pos hi, if_pos hj, setF_other (show r ≠ j by omega), setF_at]
        have e0 : sumN (fun c => (0 : Int) * z c) n = 0 := by rw [sumN_congr (z' := fun _ => 0) (fun _ _ => by simp), sumN_const]; simp
        rw [e0, hD]
        grind
      · rw [if_neg e1]
        by_cases e2 : r = j
        · subst e2
          rw [if_pos rfl, sumN_setm, sumN_setm, setF_other (show i ≠ r by omega), if_pos hi, if_pos hj, setF_at]
          have e0 : sumN (fun c => (0 : Int) * z c) n = 0 := by rw [sumN_congr (z' := fun _ => 0) (fun _ _ => by simp), sumN_const]; simp
          rw [e0, hD]
          grind
        · rw [if_neg e2, sumN_setm, if_pos hr, setF_other e2, setF_other e1]
          have e0 : sumN (fun c => (0 : Int) * z c) n = 0 := by rw [sumN_congr (z' := fun _ => 0) (fun _ _ => by simp), sumN_const]; simp
          rw [e0]
          grind
    have hm := spread_topG (w := z) hnum hrow hcol hk
    rw [fallL_congr hspr] at hm
    have hsc : sumN (atF (fallL (fun r => setF (setF z i (z i - s)) j (z j + s) r * D) n)) k = sumN (atF (fallL (setF (setF z i (z i - s)) j (z j + s)) n)) k * D := by
      rw [sumN_congr (z' := fun c => atF (fallL (setF (setF z i (z i - s)) j (z j + s)) n) c * D) (fun c hc => fall_scale (by omega) _ n (by omega)), sumN_mulr]
    rw [hsc, Int.mul_comm] at hm
    exact Int.le_of_mul_le_mul_left hm hpos
  · have hs0 : s = 0 := by omega
    subst hs0
    rw [fallL_congr (z' := z) (fun r _ => by
      unfold setF
      by_cases e2 : r = j
      · rw [if_pos e2, e2]; omega
      · rw [if_neg e2]
        by_cases e1 : r = i
        · rw [if_pos e1, e1]; omega
        · rw [if_neg e1])]
    exact Int.le_refl _
theorem move_sum {n : Nat} {z : Nat → Int} {m : MvI} (hb : mvB n z m = false) : sumN (mvS z m) n = sumN z n := by
  obtain ⟨h1, h2, h3, h4, h5, h6, h7⟩ := mvB_no hb
  obtain ⟨f, t, s⟩ := m
  simp only at h1 h2 h3 h4 h5 h6 h7
  obtain ⟨i, rfl⟩ : ∃ i : Nat, f = (i : Int) := ⟨f.toNat, by omega⟩
  obtain ⟨j, rfl⟩ : ∃ j : Nat, t = (j : Int) := ⟨t.toNat, by omega⟩
  show sumN (setF (setF z i (z i - s)) j (z j + s)) n = _
  rw [sumN_set, sumN_set, setF_other (show j ≠ i by omega), if_pos (by omega), if_pos (by omega)]; omega
/-- What moves leave. -/
theorem moves_below {n : Nat} : ∀ {l : List MvI} {z f : Nat → Int} {k : Nat}, (∀ i, i < n → 0 ≤ z i ∧ z i ≤ 4096) → runM n z l k = .inr f →
    (∀ i, i < n → 0 ≤ f i ∧ f i ≤ 4096) ∧ sumN f n = sumN z n ∧ prdO f n ≤ prdO z n ∧ ∀ c, c ≤ n → sumN (atF (fallL f n)) c ≤ sumN (atF (fallL z n)) c
  | [], z, f, k, hz, h => by
    obtain rfl : z = f := by simpa [runM] using h
    exact ⟨hz, rfl, Nat.le_refl _, fun c _ => Int.le_refl _⟩
  | m :: l, z, f, k, hz, h => by
    have h1 : (if mvB n z m = true then Sum.inl k else runM n (mvS z m) l (k + 1)) = .inr f := h
    cases hb : mvB n z m with
    | true => rw [hb, if_pos rfl] at h1; cases h1
    | false =>
      rw [hb, if_neg (by decide)] at h1
      obtain ⟨a1, a2, a3, a4⟩ := moves_below (mvS_right hb hz) h1
      exact ⟨a1, by rw [a2, move_sum hb], Nat.le_trans a3 (move_prd hb hz), fun c hc => Int.le_trans (a4 c hc) (move_below hb hc)⟩
end Go.Proofs.YtgaamcmjonngjaaDoor

/- Entropies as logarithms; the law's less. -/
namespace Go.Proofs.YtgaamcmjonngjaaDoor
open Go.RowKit

/-- It speaks of primes alone. -/
def SuppO (f : Int → Int) : Prop := ∀ x, f x ≠ 0 → 2 ≤ x ∧ x ≤ 4096 ∧ Pr x.toNat
theorem supp_termO (c : Int) (m : Nat) (h : c ≠ 0 → 0 < m ∧ m ≤ 4096) : SuppO fun x => c * multI x m := fun x hx => by
  dsimp only at hx
  have h1 : c ≠ 0 := fun e => hx (by rw [e]; simp)
  have h2 : multI x m ≠ 0 := fun e => hx (by rw [e]; simp)
  obtain ⟨a1, a2, a3⟩ := multI_support (h h1).1 h2
  have := (h h1).2
  exact ⟨a2, by omega, a1⟩
theorem SuppO.add {f g : Int → Int} (hf : SuppO f) (hg : SuppO g) : SuppO fun x => f x + g x := fun x hx => by
  by_cases h : f x = 0
  · exact hg x (fun e => hx (by dsimp only; rw [h, e]; rfl))
  · exact hf x h
theorem SuppO.sub {f g : Int → Int} (hf : SuppO f) (hg : SuppO g) : SuppO fun x => f x - g x := fun x hx => by
  by_cases h : f x = 0
  · exact hg x (fun e => hx (by dsimp only; rw [h, e]; rfl))
  · exact hf x h
theorem supp_sumO {F : Nat → Int → Int} : ∀ {n : Nat}, (∀ i, i < n → SuppO (F i)) → SuppO fun x => sumN (fun i => F i x) n
  | 0, _ => fun x hx => absurd rfl hx
  | n + 1, h => (supp_sumO fun i hi => h i (by omega)).add (h n (by omega))
theorem ent_primO {z : Nat → Int} {n N : Nat} (h : OkW z n) (hn : n ≤ 256) (hN : 1 ≤ N ∧ N ≤ 4096) : Prim fun x => sumN (entV z N x) n := by
  refine ⟨fun x => ent_bound (fun i hi => h.lt hi) hN.2 hn x, ?_⟩
  refine supp_sumO (F := fun i x => entV z N x i) fun i hi => ?_
  have hc := h.lt hi
  exact (supp_termO _ N (fun _ => hN)).sub (supp_termO _ _ (fun h0 => by omega))
theorem mult_selfP {q : Nat} (hq : Pr q) (x : Nat) : mult q (selfP x) = x * mult q x := by
  unfold selfP
  rcases Nat.eq_zero_or_pos x with e | e
  · rw [e, Nat.zero_mul]; exact mult_one hq.1
  · exact mult_power hq e _
theorem ent_prd {z : Nat → Int} {S q : Nat} (hq : Pr q) : ∀ {n : Nat}, (∀ i, i < n → 0 ≤ z i) → sumN (entV z S (q : Int)) n = sumN z n * (mult q S : Int) - (mult q (prdO z n) : Int)
  | 0, _ => by simp [sumN, prdO, mult_one hq.1]
  | n + 1, h => by
    have hm : ∀ m, multI (q : Int) m = (mult q m : Int) := fun m => by rw [multI_pr (by simpa using hq)]; simp
    have h0 := h n (by omega)
    have e : z n = ((z n).toNat : Int) := by omega
    rw [sumN, ent_prd hq (fun i hi => h i (by omega)), sumN, prdO, mult_mul hq _ _ (prdO_pos z n) (selfP_pos _), mult_selfP hq, entV, hm, hm, Int.natCast_add, Int.natCast_mul, ← e]
    grind
theorem Entropy_lvO (a : Nat → Addr) (v : Value) (n S : Nat) (z : Nat → Int) (w : World) (hE : Errs w a) (h : NumsAt w v n z) (h0 : weightsErr z n = 0) (hS : sumN z n = (S : Int)) :
    Calls Tryd.prog 14 #[v] w fun e w' => ∃ dn u, e = .returned (.tuple #[.agg #[.int .i64 dn, u], .nilIface]) ∧ LV w' S (fun x => sumN (entV z S x) n) 4096 dn u ∧ Below w.heap.size w w' := by
  obtain ⟨h16, hok⟩ := weightsErr_ok h0
  have hp := hok.pos
  have hl := hok.le
  have hS0 : 1 ≤ S := by omega
  have hS4 : S ≤ 4096 := by omega
  rcases h with ⟨_, _, _, h1⟩ | ⟨b, o, c, rfl, _, hr⟩
  · have := hok.posN; omega
  refine (Entropy_ok a b o c n S z w hE hr h0 hS (fun i hi => (hok.lt hi).1) h16 hS0 hS4 hok.posN).mono ?_
  rintro e w' ⟨dn, u, rfl, hu, hb'⟩
  exact ⟨dn, u, rfl, hu.lv hS0 (by omega) (ent_primO hok (by omega) ⟨hS0, hS4⟩), hb'⟩

set_option maxRecDepth 100000 in
set_option maxHeartbeats 8000000 in
theorem less_any {M L : Nat} {F G : Int → Int} {d1 d2 : Int} {v1 v2 : Value} {U D : Nat} (a : Nat → Addr) (w : World) (hE : Errs w a) (h1 : LV w M F L d1 v1) (h2 : LV w M G L d2 v2) (hL : L ≤ 4500) (hM : 1 ≤ M) (hU : 0 < U) (hD : 0 < D) (hUD : D ≤ U) (hm : ∀ q : Nat, Pr q → G (q : Int) + -F (q : Int) = (mult q U : Int) - (mult q D : Int)) :
    Calls Tryd.prog 15 #[.agg #[.int .i64 d1, v1], .agg #[.int .i64 d2, v2]] w fun e w' => e = .returned (.bool true) ∧ Below w.heap.size w w' := by
  obtain ⟨va, vn, vc, rfl⟩ := h1.form
  obtain ⟨ua, un, uc, rfl⟩ := h2.form
  obtain ⟨W0, hW0⟩ : ∃ W0, W0 = (w.alloc (.cells #[.int .i64 d1, .slice va vn vc] 36)).alloc (.cells #[.int .i64 d2, .slice ua un uc] 36) := ⟨_, rfl⟩
  have hb0 : Below w.heap.size w W0 := by rw [hW0]; exact ((Below.refl _ _).alloc (Nat.le_refl _) _).alloc (by simp) _
  have HC0 : Hid (∀ W, Below W0.heap.size W0 W → (W.cell? ⟨w.heap.size, 0, none⟩ = some (.int .i64 d1) ∧ W.cell? ⟨w.heap.size, 1, none⟩ = some (.slice va vn vc)) ∧ W.cell? ⟨w.heap.size + 1, 0, none⟩ = some (.int .i64 d2) ∧ W.cell? ⟨w.heap.size + 1, 1, none⟩ = some (.slice ua un uc)) := fun W hb => by
    have hr := hb
    rw [hW0] at hr
    have r2 := res_past hr
    rw [World.size_alloc] at r2
    have r1 := res_past (w := w) (below_chain (new_below _ _) hr)
    exact ⟨⟨r1.1, r1.2.1⟩, r2.1, r2.2.1⟩
  have HEND : Hid (∀ W, Below W0.heap.size W0 W → Below w.heap.size w W) := fun W hb => hb0.trans (hb.mono hb0.size)
  have HS2 := Hid.mk' (Scale_back_lv a W0 (hE.below hb0) (h1.later hb0) (by omega))
  have HAD : Hid (∀ (W : World) (e1 : Int) (u1 : Value), Below W0.heap.size W0 W → LV W M (fun x => -F x) L e1 u1 → Calls Tryd.prog 48 #[.agg #[.int .i64 d2, .slice ua un uc], .agg #[.int .i64 e1, u1]] W fun e w' => ((∃ dn v, e = .returned (.tuple #[.agg #[.int .i64 dn, v], .nilIface]) ∧ LV w' M (fun x => G x + -F x) (L + L) dn v) ∨ ∃ ad, e = .returned (.tuple #[.agg #[.int .i64 0, .slice none 0 0], .iface 227 (.pointer (some ad))])) ∧ Below W.heap.size W w') := fun W e1 u1 hb k1 => Add_lv a W (hE.below (HEND.out W hb)) (h2.later (HEND.out W hb)) k1 (by omega)
  have HSG : Hid (∀ (W : World) (e1 : Int) (u1 : Value), Below W0.heap.size W0 W → LV W M (fun x => G x + -F x) (L + L) e1 u1 → Calls Tryd.prog 49 #[.agg #[.int .i64 e1, u1]] W fun e w' => ((∃ z, e = .returned (.tuple #[.int .i64 z, .nilIface]) ∧ 0 ≤ z) ∨ ∃ ad, e = .returned (.tuple #[.int .i64 0, .iface 227 (.pointer (some ad))])) ∧ Below W.heap.size W w') := fun W e1 u1 hb k1 => by
    refine (Sign_lv1 a W (hE.below (HEND.out W hb)) k1 (by omega) hM hU hD hm).mono ?_
    rintro e w' ⟨⟨z, rfl, hz⟩ | h, hb'⟩
    · refine ⟨Or.inl ⟨z, rfl, ?_⟩, hb'⟩
      obtain ⟨z1, z2, _⟩ := hz
      rcases Nat.lt_or_ge D U with h9 | h9
      · rw [z1 h9]; omega
      · rw [z2 (by omega)]; omega
    · exact ⟨Or.inr h, hb'⟩
  have HW0 := Hid.mk' hW0
  obtain ⟨⟨j0, j1⟩, _, _⟩ := HC0.out W0 (Below.refl _ _)
  clear hE h1 h2 hb0 hW0 hm hU hD hUD
  go_enter Tryd.func15, Tryd.ntmps15
  go_upto_region 1 with fail
  rw [← HW0.out]
  go_wp2_with fail
  refine HS2.out.mono ?_
  rintro e w2 ⟨dn, v, rfl, hv, hb2⟩
  obtain ⟨v5, n5, c5, rfl⟩ := hv.form
  have hb3 : Below w2.heap.size w2 (w2.alloc (.cells #[.int .i64 dn, .slice v5 n5 c5] 36)) := new_below _ _
  have HL5 := Hid.mk' (fun (W : World) hb => res_past (x := .int .i64 dn) (y := .slice v5 n5 c5) (w := w2) (t := 36) (w1 := W) hb)
  have HB3 := Hid.mk' (below_chain hb2 hb3)
  have HV3 := Hid.mk' (hv.later hb3)
  obtain ⟨_, k2, k3⟩ := HC0.out _ HB3.out
  obtain ⟨p0, p1, p2, p3⟩ := HL5.out _ (Below.refl _ _)
  have HA3 := Hid.mk' (HAD.out _ _ _ HB3.out HV3.out)
  have hle : W0.heap.size ≤ w2.heap.size := hb2.size
  obtain ⟨w3, hw3⟩ : ∃ w3, w3 = w2.alloc (.cells #[.int .i64 dn, .slice v5 n5 c5] 36) := ⟨_, rfl⟩
  obtain ⟨B5, hB5⟩ : ∃ B5, B5 = w2.heap.size := ⟨_, rfl⟩
  rw [← hw3] at HB3 HV3 HA3 HL5 k2 k3 p0 p1 p2 p3
  rw [← hB5] at HL5 p0 p1 p2 p3 hle
  have HLE := Hid.mk' hle
  clear hv hb3 hb2 HS2 j0 j1 hle
  go_upto_region 4 with fail
  rw [← hw3, ← hB5]
  clear hw3 hB5
  go_wp2_with fail
  refine HA3.out.mono ?_
  rintro e w6 ⟨hor, hb6⟩
  have HB6 := Hid.mk' (below_chain HB3.out hb6)
  have g0 : w6.cell? ⟨B5, 0, none⟩ = some (.int .i64 dn) := by rw [hb6.cell (cell_lt p0)]; exact p0
  have g1 : w6.cell? ⟨B5, 1, none⟩ = some (.slice v5 n5 c5) := by rw [hb6.cell (cell_lt p1)]; exact p1
  have g2 : w6.frozen? ⟨B5, 0, none⟩ = false := by rw [hb6.frozen (show B5 < w3.heap.size from cell_lt p0)]; exact p2
  have g3 : w6.frozen? ⟨B5, 1, none⟩ = false := by rw [hb6.frozen (show B5 < w3.heap.size from cell_lt p0)]; exact p3
  clear hb6 HA3 p0 p1 p2 p3 k2 k3 HL5
  have HST : Hid (∀ (x y : Value), Below W0.heap.size W0 ((w6.setCell ⟨B5, 0, none⟩ x).setCell ⟨B5, 1, none⟩ y)) := fun x y => (HB6.out.setCell HLE.out _).setCell HLE.out _
  rcases hor with ⟨dn6, v6, rfl, hv6⟩ | ⟨ad, rfl⟩
  · obtain ⟨v8, n8, c8, rfl⟩ := hv6.form
    have hv7 : LV ((w6.setCell ⟨B5, 0, none⟩ (.int .i64 dn6)).setCell ⟨B5, 1, none⟩ (.slice v8 n8 c8)) M (fun x => G x + -F x) (L + L) dn6 (.slice v8 n8 c8) := by
      obtain ⟨d, t, q1, q2, q3⟩ := hv6
      exact ⟨d, t, q1, own_set q2 g1, q3⟩
    have HG7 := Hid.mk' (HSG.out _ _ _ (HST.out (.int .i64 dn6) (.slice v8 n8 c8)) hv7)
    have HB7 := Hid.mk' (HST.out (.int .i64 dn6) (.slice v8 n8 c8))
    have p0 : ((w6.setCell ⟨B5, 0, none⟩ (.int .i64 dn6)).setCell ⟨B5, 1, none⟩ (.slice v8 n8 c8)).cell? ⟨B5, 0, none⟩ = some (.int .i64 dn6) := by
      rw [World.cell?_setCell_other _ _ _ _ (by simp)]; exact World.cell?_setCell_same _ _ _ g0
    have p1 : ((w6.setCell ⟨B5, 0, none⟩ (.int .i64 dn6)).setCell ⟨B5, 1, none⟩ (.slice v8 n8 c8)).cell? ⟨B5, 1, none⟩ = some (.slice v8 n8 c8) :=
      World.cell?_setCell_same _ _ _ (by rw [World.cell?_setCell_other _ _ _ _ (by simp)]; exact g1)
    obtain ⟨w7, hw7⟩ : ∃ w7, w7 = (w6.setCell ⟨B5, 0, none⟩ (.int .i64 dn6)).setCell ⟨B5, 1, none⟩ (.slice v8 n8 c8) := ⟨_, rfl⟩
    rw [← hw7] at HG7 HB7 p0 p1
    clear hv6 hv7
    go_upto_region 7 with fail
    rw [← hw7]
    clear hw7 g0 g1 g2 g3
    go_wp2_with fail
    refine HG7.out.mono ?_
    rintro e w8 ⟨hor, hb8⟩
    have HB8 := Hid.mk' (HEND.out _ (below_chain HB7.out hb8))
    clear hb8 HG7 p0 p1
    rcases hor with ⟨zz, rfl, hz⟩ | ⟨ad, rfl⟩
    · have hzd : decide (0 ≤ zz) = true := decide_eq_true hz
      go_wp2_with fail
      go_ret
      exact ⟨rfl, HB8.out⟩
    · go_wp2_with fail
      go_ret
      exact ⟨rfl, HB8.out⟩
  · have HBE := Hid.mk' (HEND.out _ (HST.out (.int .i64 0) (.slice none 0 0)))
    go_wp2_with fail
    go_ret
    exact ⟨rfl, HBE.out⟩
end Go.Proofs.YtgaamcmjonngjaaDoor

/- The law's movesOf. -/
namespace Go.Proofs.YtgaamcmjonngjaaDoor
open Go.RowKit

theorem Tryd.infoMov : (Tryd.prog.info? 83).map (fun i => (i.zero, i.size, i.bytes)) = some (some (.agg #[.int .i64 0, .int .i64 0, .int .i64 0]), 3, 24) := by kernel_rfl
theorem three_new (w : World) (x0 x1 x2 : Value) (t : TypeId) (j : Nat) (u : Value) (h : [x0, x1, x2][j]? = some u) : (w.alloc (.cells #[x0, x1, x2] t)).cell? ((⟨w.heap.size, 0, none⟩ : Addr).add j) = some u := by
  rw [add_plain, World.cell?_alloc_at _ _ _ _ rfl, Nat.zero_add]
  rcases j with _ | _ | _ | j
  · simpa using h
  · simpa using h
  · simpa using h
  · simp at h
theorem mv_push {B : Nat} {w0 wr w3 : World} {v : Value} {e : TypeId} {size n : Nat} {xs : List Value} (hB : Below B w0 wr) (hle : B ≤ wr.heap.size) (hR : wr.ownsRow B e size v n xs) (hg : wr.grownBy w3 v.ownBlock) : Below B w0 w3 :=
  hB.trans ((Below.refl _ _).grown hg hle (fun k e => (hR.lt k e).1))
/-- The cells of moves. -/
def mvC (c : MvI) : List Value := [.int .i64 c.f, .int .i64 c.t, .int .i64 c.s]
def mvsC : List MvI → List Value
  | [] => []
  | c :: r => mvC c ++ mvsC r
theorem mvsC_append : ∀ a b, mvsC (a ++ b) = mvsC a ++ mvsC b
  | [], b => rfl
  | c :: a, b => by simp [mvsC, mvsC_append a b]
theorem mvsC_snoc (a : List MvI) (c : MvI) : mvsC (a ++ [c]) = mvsC a ++ [.int .i64 c.f, .int .i64 c.t, .int .i64 c.s] := by
  rw [mvsC_append]; rfl
theorem mvsC_at : ∀ (l : List MvI) (i : Nat) (c : MvI), l[i]? = some c → (mvsC l)[i * 3]? = some (.int .i64 c.f) ∧ (mvsC l)[i * 3 + 1]? = some (.int .i64 c.t) ∧ (mvsC l)[i * 3 + 2]? = some (.int .i64 c.s)
  | [], i, c, h => by simp at h
  | d :: r, 0, c, h => by
    obtain rfl : d = c := by simpa using h
    exact ⟨rfl, rfl, rfl⟩
  | d :: r, i + 1, c, h => by
    obtain ⟨h0, h1, h2⟩ := mvsC_at r i c (by simpa using h)
    have e : ∀ k, (mvsC (d :: r))[(i + 1) * 3 + k]? = (mvsC r)[i * 3 + k]? := fun k => by
      show (mvC d ++ mvsC r)[(i + 1) * 3 + k]? = _
      rw [List.getElem?_append_right (by show 3 ≤ _; omega)]
      congr 1
      show (i + 1) * 3 + k - 3 = _
      omega
    exact ⟨by have := e 0; simp only [Nat.add_zero] at this; rw [this]; exact h0, by rw [e 1]; exact h1, by rw [e 2]; exact h2⟩
theorem mvAt_row {w : World} {base : Nat} {t : TypeId} {v : Value} {l : List MvI} (h : w.ownsRow base t 3 v l.length (mvsC l)) : MvAt w v l := by
  rcases h.2 with ⟨rfl, hn⟩ | ⟨g, cap, cur, rfl, _⟩
  · obtain rfl : l = [] := List.eq_nil_of_length_eq_zero hn
    exact ⟨_, _, rfl, fun i c hc => by simp at hc⟩
  · refine ⟨_, _, rfl, fun i c hc => ⟨g, 0, rfl, ?_⟩⟩
    have hi : i < l.length := by
      rcases Nat.lt_or_ge i l.length with h' | h'
      · exact h'
      · rw [List.getElem?_eq_none h'] at hc; cases hc
    obtain ⟨h0, h1, h2⟩ := mvsC_at l i c hc
    have e : ∀ j, j < l.length * 3 → w.cell? ⟨g, j, none⟩ = (mvsC l)[j]? := fun j hj => h.cellAt j hj
    rw [Nat.zero_add]
    refine ⟨?_, ?_, ?_⟩
    · rw [e _ (by omega)]; exact h0
    · rw [e _ (by omega)]; exact h1
    · rw [e _ (by omega)]; exact h2

set_option maxRecDepth 100000 in
set_option maxHeartbeats 4000000 in
theorem movesOf_any (v : Value) (l : List MvI) (w : World) (h : MvAt w v l) (hn : l.length ≤ 100000) :
    Calls Tryd.prog 12 #[v] w fun e w' => ∃ v', e = .returned v' ∧ MvAt w' v' l ∧ Below w.heap.size w w' := by
  obtain ⟨ad, cap, rfl⟩ := h.form
  have HL := Hid.mk' (fun (W : World) (hb : Below w.heap.size w W) => h.later hb)
  obtain ⟨i, hi, hi2⟩ := Option.map_eq_some_iff.1 Tryd.infoMov
  obtain ⟨hz, hsz, hby⟩ : i.zero = some (.agg #[.int .i64 0, .int .i64 0, .int .i64 0]) ∧ i.size = 3 ∧ i.bytes = 24 := by simpa using hi2
  have HINF := Hid.mk' (And.intro hi (And.intro hz (And.intro hsz hby)))
  clear hi hi2 hz hsz hby h
  go_enter Tryd.func12, Tryd.ntmps12
  go_wp2_with fail
  go_loopw [3, 4] (fun s t wr => ∃ k : Nat, k ≤ l.length ∧ t = .int .i64 (k : Int) ∧ Hid (wr.ownsRow w.heap.size 83 3 s k (mvsC (l.take k))) ∧ Hid (Below w.heap.size w wr)) (fun _ t _ => l.length - (intOf t).toNat)
  case atStart => exact ⟨0, Nat.zero_le _, rfl, World.ownsRow_nil _ _ _ _, Below.refl _ _⟩
  case round =>
    obtain ⟨k, hk, rfl, HO, HB⟩ := hrel
    have hle := HB.out.size
    rcases Nat.lt_or_ge k l.length with h5 | h5
    · obtain ⟨c, hc⟩ : ∃ c, l[k]? = some c := ⟨_, List.getElem?_eq_getElem h5⟩
      obtain ⟨b, o, rfl, x0, x1, x2⟩ := (HL.out wr HB.out).at hc
      have HTK : Hid (l.take (k + 1) = l.take k ++ [c]) := by
        show _ = _
        obtain ⟨hi, rfl⟩ := List.getElem?_eq_some_iff.1 hc
        exact List.take_succ_eq_append_getElem hi
      have HKK : Hid (∀ W, Below w.heap.size w W → W.cell? ⟨b, o + k * 3, none⟩ = some (.int .i64 c.f) ∧ W.cell? ⟨b, o + k * 3 + 1, none⟩ = some (.int .i64 c.t) ∧ W.cell? ⟨b, o + k * 3 + 2, none⟩ = some (.int .i64 c.s)) := fun W hb => by
        obtain ⟨b', o', e, y⟩ := (HL.out W hb).at hc
        obtain ⟨rfl, rfl⟩ : b = b' ∧ o = o' := by simpa using e
        exact y
      have hkI : (k : Int) < (l.length : Int) := by omega
      have hk0 : (0 : Int) ≤ (k : Int) := by omega
      have HRR := Hid.mk' (HO.out.alloc (.cells #[.int .i64 c.f, .int .i64 c.t, .int .i64 c.s] 83))
      have HBB : Hid (Below w.heap.size w (wr.alloc (.cells #[.int .i64 c.f, .int .i64 c.t, .int .i64 c.s] 83))) := HB.out.alloc hle _
      have HPU : Hid (∀ w3, World.grownBy (wr.alloc (.cells #[.int .i64 c.f, .int .i64 c.t, .int .i64 c.s] 83)).drew w3 u3.ownBlock → Below w.heap.size w w3) := fun w3 hg => mv_push HBB.out.drew (by show w.heap.size ≤ (wr.alloc (.cells #[.int .i64 c.f, .int .i64 c.t, .int .i64 c.s] 83)).heap.size; simp; omega) (HRR.out.drew) hg
      go_wp2_with fail
      go_region_held3 (fun W => W.cell? ⟨b, o + k * 3, none⟩ = some (.int .i64 c.f) ∧ W.cell? ⟨b, o + k * 3 + 1, none⟩ = some (.int .i64 c.t) ∧ W.cell? ⟨b, o + k * 3 + 2, none⟩ = some (.int .i64 c.s))
        (first | exact HKK.out _ (HPU.out _ (by assumption)) | go_keep)
        ((refine step_append_lies _ (by rfl) _ _ _ (by rfl) w.heap.size 83 i _ 3 24 Tryd.underlying30 HINF.out.1 HINF.out.2.1 HINF.out.2.2.1 HINF.out.2.2.2 rfl (by omega) u3 k (mvsC (l.take k)) (by rfl) HRR.out ⟨wr.heap.size, 0, none⟩ 1 1 [.int .i64 c.f, .int .i64 c.t, .int .i64 c.s] (by rfl) rfl (three_new wr _ _ _ _) (by simp [Value.oneCell']) (by omega) (by unfold maxLen; omega) (by omega) (by simp; omega) _ rfl ?_; intro g' cap' w3 hown3 hgrow3 hat3 hlt3))
      have HW3 := Hid.mk' hown3
      have HB3 := Hid.mk' (HPU.out _ hgrow3)
      clear hown3 hgrow3 hat3
      go_wp2_with fail
      exact ⟨⟨k + 1, h5, by go_num, by show World.ownsRow _ _ _ _ _ _ _; rw [HTK.out, mvsC_snoc]; exact HW3.out, HB3.out⟩, by simp [intOf]; omega⟩
    · obtain rfl : k = l.length := by omega
      have hkI : ¬ (l.length : Int) < (l.length : Int) := by omega
      rw [List.take_length] at HO
      have HV := Hid.mk' (mvAt_row HO.out)
      go_wp2_with fail
      go_ret
      exact ⟨_, rfl, HV.out, HB.out⟩
end Go.Proofs.YtgaamcmjonngjaaDoor

/- The closed fact at the head of all Order laws: all at one place is above an even share. -/
namespace Go.Proofs.YtgaamcmjonngjaaDoor
open Go.RowKit

def unP : Nat → Int := fun i => if i = 0 then 0 else 4
def unQ : Nat → Int := fun _ => 2
theorem un_err : prE 2 unP 2 unQ = 0 := by decide +kernel
theorem un_dip : dipN (surF unP unQ 2) 2 = false := by decide +kernel
set_option maxRecDepth 100000 in
set_option maxHeartbeats 2000000 in
theorem unlike_any (a : Nat → Addr) (w : World) (hE : Errs w a) :
    Calls Tryd.prog 9 #[] w fun e w' => e = .returned (.bool true) ∧ Below w.heap.size w w' := by
  obtain ⟨W0, hW0⟩ : ∃ W0, W0 = w.alloc (.cells #[.int .i64 0, .int .i64 4] 3) := ⟨_, rfl⟩
  obtain ⟨W1, hW1⟩ : ∃ W1, W1 = W0.alloc (.cells #[.int .i64 2, .int .i64 2] 3) := ⟨_, rfl⟩
  have hb0 : Below w.heap.size w W0 := by rw [hW0]; exact (Below.refl _ _).alloc (Nat.le_refl _) _
  have hb01 : Below W0.heap.size W0 W1 := by rw [hW1]; exact (Below.refl _ _).alloc (Nat.le_refl _) _
  have hs0 : W0.heap.size = w.heap.size + 1 := by rw [hW0]; simp
  have hN : NumsAt W0 (.slice (some ⟨w.heap.size, 0, none⟩) 2 2) 2 unP := by
    refine Or.inr ⟨_, 0, 2, rfl, by decide, fun i hi => ?_⟩
    rw [hW0]
    rcases (show i = 0 ∨ i = 1 by omega) with rfl | rfl <;> go_simp <;> rfl
  have hM : NumsAt W1 (.slice (some ⟨w.heap.size + 1, 0, none⟩) 2 2) 2 unQ := by
    refine Or.inr ⟨_, 0, 2, rfl, by decide, fun i hi => ?_⟩
    rw [hW1, ← hs0]
    rcases (show i = 0 ∨ i = 1 by omega) with rfl | rfl <;> go_simp <;> rfl
  have hb1 := below_chain hb0 hb01
  have hA : Calls Tryd.prog 13 #[.slice (some ⟨w.heap.size, 0, none⟩) 2 2, .slice (some ⟨w.heap.size + 1, 0, none⟩) 2 2] W1 fun e w' => e = .returned (.tuple #[.bool true, .nilIface]) ∧ Below W1.heap.size W1 w' := by
    have h := Above_any a _ _ 2 2 unP unQ W1 (hE.below hb1) (hN.later hb01) hM (by omega) (by omega)
    rw [un_err, un_dip] at h
    exact h
  have HA := Hid.mk' hA
  have HB := Hid.mk' hb1
  have HW : Hid ((w.alloc (.cells #[.int .i64 0, .int .i64 4] 3)).alloc (.cells #[.int .i64 2, .int .i64 2] 3) = W1) := by show _ = _; rw [hW1, hW0]
  clear hE hb0 hb01 hb1 hN hM hA hW0 hW1 hs0
  go_enter Tryd.func9, Tryd.ntmps9
  go_wp2_with fail
  rw [HW.out]
  refine HA.out.mono ?_
  rintro e w2 ⟨rfl, hb2⟩
  have HB2 := Hid.mk' (below_chain HB.out hb2)
  clear hb2 HA
  go_wp2_with fail
  go_ret
  exact ⟨rfl, HB2.out⟩
end Go.Proofs.YtgaamcmjonngjaaDoor

/- The law OrderFalls. -/
namespace Go.Proofs.YtgaamcmjonngjaaDoor
open Go.RowKit

theorem own_formF {w W : World} {v : Value} {n : Nat} {z : Nat → Int} {t : TypeId} (h : W.ownsRow w.heap.size t 1 v n (numCells z n)) (hb : Below w.heap.size w W) : (v = .slice none 0 0 ∧ n = 0) ∨ ∃ g cap, v = .slice (some ⟨g, 0, none⟩) n cap ∧ RowAt W g 0 n z := by
  rcases (own_fill h hb).2 with ⟨h0, hv⟩ | ⟨g, cap, hv, hf⟩
  · exact Or.inl ⟨hv, h0⟩
  · exact Or.inr ⟨g, cap, hv, hf.row⟩
/-- What the law asks of numbers. -/
theorem falls_facts {n : Nat} {z : Nat → Int} {l : List MvI} (h0 : (apE n z l).1 = 0) (hn : 0 < n) : n ≤ 16 ∧ (∀ i, i < n → 0 ≤ z i ∧ z i ≤ 4096) ∧ (∀ i, i < n → 0 ≤ apZ n z l i ∧ apZ n z l i ≤ 4096) ∧ sumN (apZ n z l) n = sumN z n ∧ prdO (apZ n z l) n ≤ prdO z n ∧ prE n z n (apZ n z l) = 0 ∧ dipN (surF z (apZ n z l) n) n = false := by
  unfold apE at h0
  by_cases h1 : 16 < n ∨ 4000 < l.length
  · rw [if_pos h1] at h0; cases h0
  · rw [if_neg h1] at h0
    cases hno : noN z n with
    | true => rw [hno, if_pos rfl] at h0; cases h0
    | false =>
      rw [hno, if_neg (by decide)] at h0
      cases hr : runM n z l 0 with
      | inl i => rw [hr] at h0; cases h0
      | inr f =>
        have e : apZ n z l = f := by unfold apZ; rw [hr]
        have hz := noN_none hno
        obtain ⟨a1, a2, a3, a4⟩ := moves_below hz hr
        rw [e]
        refine ⟨by omega, hz, a1, a2, a3, ?_, ?_⟩
        · unfold prE
          rw [if_neg (by omega), if_neg]
          rw [hno, noN_of a1]
          simp
          exact ⟨by omega, a2.symm⟩
        · refine dipN_of fun k hk => ?_
          rw [sur_sum]
          have := a4 k hk
          omega
theorem someB_sum {z : Nat → Int} : ∀ {n : Nat}, (∀ i, i < n → 0 ≤ z i) → (someB z n = true ↔ 0 < sumN z n)
  | 0, _ => by simp [someB, sumN]
  | n + 1, h => by
    have ih := someB_sum (z := z) (n := n) (fun i hi => h i (by omega))
    have h1 := h n (by omega)
    have h2 := sumN_nonneg (z := z) (n := n) (fun i hi => h i (by omega))
    show (someB z n || decide (0 < z n)) = true ↔ 0 < sumN z n + z n
    rw [Bool.or_eq_true, ih, decide_eq_true_eq]
    omega
theorem negB_false {z : Nat → Int} {n : Nat} (h : ∀ i, i < n → 0 ≤ z i) : negB z n = false := by
  cases hb : negB z n with
  | false => rfl
  | true =>
    obtain ⟨i, hi, h1⟩ := (negB_iff z n).1 hb
    have := h i hi
    omega
theorem wErr_same {n : Nat} {z f : Nat → Int} (hz : ∀ i, i < n → 0 ≤ z i) (hf : ∀ i, i < n → 0 ≤ f i) (hs : sumN f n = sumN z n) : weightsErr f n = weightsErr z n := by
  unfold weightsErr listErr
  have e : someB f n = someB z n := by
    have a := someB_sum hz
    have b := someB_sum hf
    rw [hs] at b
    cases h1 : someB f n <;> cases h2 : someB z n <;> simp_all <;> omega
  rw [negB_false hz, negB_false hf, e, hs]

set_option maxRecDepth 100000 in
set_option maxHeartbeats 8000000 in
theorem OrderFalls_all (a : Nat → Addr) (v : Value) (n : Nat) (z : Nat → Int) (lv : Value) (l : List MvI) (w : World) (hE : Errs w a) (h : NumsAt w v n z) (hl : MvAt w lv l) :
    Calls Tryd.prog 3 #[v, lv] w fun e w' => e = .returned (.bool true) ∧ Below w.heap.size w w' := by
  have hU := unlike_any a w hE
  have HN := Hid.mk' (fun (W : World) (hb : Below w.heap.size w W) => h.later hb)
  have HL := Hid.mk' (fun (W : World) (hb : Below w.heap.size w W) => hl.later hb)
  have HE := Hid.mk' (fun (W : World) (hb : Below w.heap.size w W) => hE.below hb)
  obtain ⟨ad, cap, rfl⟩ := h.form
  obtain ⟨lad, lcap, rfl⟩ := hl.form
  clear h hl hE
  by_cases hb : 16 < n ∨ 100 < l.length
  · have hd : (16 : Int) < (n : Int) ∨ (¬ (16 : Int) < (n : Int) ∧ (100 : Int) < (l.length : Int)) := by omega
    clear hb
    rcases hd with h1 | ⟨h1, h2⟩
    all_goals
      go_enter Tryd.func3, Tryd.ntmps3
      go_wp2_with fail
      refine hU.mono ?_
      rintro e w1 ⟨rfl, hb1⟩
      have HB1 := Hid.mk' hb1
      clear hb1 hU
      go_wp2_with fail
      go_ret
      exact ⟨rfl, HB1.out⟩
  · have h1 : ¬ (16 : Int) < (n : Int) := by omega
    have h2 : ¬ (100 : Int) < (l.length : Int) := by omega
    have hn16 : n ≤ 16 := by omega
    have HIN := Hid.mk' (fun (W : World) (hb : Below w.heap.size w W) => ints_row _ n z W (HN.out W hb) (by omega))
    have HIA := Hid.mk' (fun (W : World) (hb : Below w.heap.size w W) => ints_any _ n z W (HN.out W hb) (by omega))
    have HMO := Hid.mk' (fun (W : World) (hb : Below w.heap.size w W) => movesOf_any _ l W (HL.out W hb) (by omega))
    have HAP := Hid.mk' (fun (W : World) (pv mv : Value) (hb : Below w.heap.size w W) (hp : (pv = .slice none 0 0 ∧ n = 0) ∨ ∃ g cap, pv = .slice (some ⟨g, 0, none⟩) n cap ∧ RowAt W g 0 n z) (hm : MvAt W mv l) => Apply_any a pv mv n z l W (HE.out W hb) hp hm (by omega) (by omega))
    clear HN HL hb
    go_enter Tryd.func3, Tryd.ntmps3
    go_wp2_with fail
    refine hU.mono ?_
    rintro e w1 ⟨rfl, hb1⟩
    have HB1 := Hid.mk' hb1
    clear hb1 hU
    go_wp2_with fail
    refine (HIN.out w1 HB1.out).mono ?_
    rintro e w3 ⟨v3, rfl, ho3, hb3⟩
    have HF3 := Hid.mk' (own_formF ho3 hb3)
    have HB3 := Hid.mk' (below_chain HB1.out hb3)
    clear ho3 hb3
    go_wp2_with fail
    refine (HMO.out w3 HB3.out).mono ?_
    rintro e w4 ⟨v4, rfl, hm4, hb4⟩
    have HM4 := Hid.mk' hm4
    have HB4 := Hid.mk' (below_chain HB3.out hb4)
    have HF4 : Hid ((v3 = .slice none 0 0 ∧ n = 0) ∨ ∃ g cap, v3 = .slice (some ⟨g, 0, none⟩) n cap ∧ RowAt w4 g 0 n z) := by
      rcases HF3.out with h | ⟨g, c, h, h'⟩
      · exact Or.inl h
      · exact Or.inr ⟨g, c, h, h'.later hb4⟩
    clear hm4 hb4 HF3 HB3
    go_wp2_with fail
    refine (HAP.out w4 v3 v4 HB4.out HF4.out HM4.out).mono ?_
    rintro e w5 ⟨s, x, rfl, hx5, hs0, hs1, hb5⟩
    have HB5 := Hid.mk' (below_chain HB4.out hb5)
    by_cases h0 : (apE n z l).1 = 0
    · obtain rfl := hx5.nil0 h0
      have hs5 := hs1 h0
      clear hx5 hs0 hs1 hb5 HF4 HM4 HB4
      by_cases hn0 : n = 0
      · have k1 : ((n : Int) == 0) = true := by simp; exact hn0
        clear h0 hs5 hn0
        go_wp2_with fail
        go_ret
        exact ⟨rfl, HB5.out⟩
      · have k1 : ((n : Int) == 0) = false := by simp; exact hn0
        obtain ⟨f1, f2, f3, f4, f5, f6, f7⟩ := falls_facts h0 (by omega)
        generalize apZ n z l = f at *
        have hwe := wErr_same (fun i hi => (f2 i hi).1) (fun i hi => (f3 i hi).1) f4
        have HIQ := Hid.mk' (fun (W : World) (hq : NumsAt W s n f) => ints_any s n f W hq (by omega))
        have HABV : Hid (∀ (W : World) (x y : Value), Below w.heap.size w W → NumsAt W x n z → NumsAt W y n f → Calls Tryd.prog 13 #[x, y] W fun e w' => e = .returned (.tuple #[.bool true, .nilIface]) ∧ Below W.heap.size W w') := fun W x y hb hx hy => by
          have h9 := Above_any a x y n n z f W (HE.out W hb) hx hy (by omega) (by omega)
          rw [f6, f7] at h9
          exact h9
        have HQ5 := Hid.mk' hs5
        clear h0 hs5 hn0 f6 f7
        go_wp2_with fail
        refine (HIA.out w5 HB5.out).mono ?_
        rintro e w6 ⟨v6, rfl, hn6, hb6⟩
        have HN6 := Hid.mk' hn6
        have HQ6 := Hid.mk' (HQ5.out.later hb6)
        have HB6 := Hid.mk' (below_chain HB5.out hb6)
        clear hn6 hb6
        go_wp2_with fail
        refine (HIQ.out w6 HQ6.out).mono ?_
        rintro e w7 ⟨v7, rfl, hn7, hb7⟩
        have HN7 := Hid.mk' hn7
        have HN6' := Hid.mk' (HN6.out.later hb7)
        have HQ7 := Hid.mk' (HQ6.out.later hb7)
        have HB7 := Hid.mk' (below_chain HB6.out hb7)
        clear hn7 hb7
        go_wp2_with fail
        refine (HABV.out w7 v6 v7 HB7.out HN6'.out HN7.out).mono ?_
        rintro e w8 ⟨rfl, hb8⟩
        have HQ8 := Hid.mk' (HQ7.out.later hb8)
        have HB8 := Hid.mk' (below_chain HB7.out hb8)
        clear hb8 HN6 HN6' HN7 HQ5 HQ6 HQ7 HB5 HB6 HB7 HABV
        go_wp2_with fail
        refine (HIA.out w8 HB8.out).mono ?_
        rintro e w9 ⟨v9, rfl, hn9, hb9⟩
        have HN9 := Hid.mk' hn9
        have HQ9 := Hid.mk' (HQ8.out.later hb9)
        have HB9 := Hid.mk' (below_chain HB8.out hb9)
        clear hn9 hb9 HQ8
        by_cases hw0 : weightsErr z n = 0
        · obtain ⟨S, hS⟩ : ∃ S : Nat, sumN z n = (S : Int) := ⟨(sumN z n).toNat, by have := sumN_nonneg (z := z) (n := n) (fun i hi => (f2 i hi).1); omega⟩
          have hS1 : 1 ≤ S := by
            obtain ⟨_, hok⟩ := weightsErr_ok hw0
            have := hok.pos
            omega
          have HEP := Hid.mk' (fun (W : World) (y : Value) (hb : Below w.heap.size w W) (hy : NumsAt W y n z) => Entropy_lvO a y n S z W (HE.out W hb) hy hw0 hS)
          have HEQ := Hid.mk' (fun (W : World) (y : Value) (hb : Below w.heap.size w W) (hy : NumsAt W y n f) => Entropy_lvO a y n S f W (HE.out W hb) hy (by rw [hwe]; exact hw0) (by rw [f4]; exact hS))
          have HLS := Hid.mk' (fun (W : World) (d1 d2 : Int) (u1 u2 : Value) (hb : Below w.heap.size w W) (k1 : LV W S (fun x => sumN (entV z S x) n) 4096 d1 u1) (k2 : LV W S (fun x => sumN (entV f S x) n) 4096 d2 u2) => less_any (U := prdO z n) (D := prdO f n) a W (HE.out W hb) k1 k2 (by decide) hS1 (prdO_pos z n) (prdO_pos f n) f5 (fun q hq => by
            rw [ent_prd hq (fun i hi => (f2 i hi).1), ent_prd hq (fun i hi => (f3 i hi).1), f4]; omega))
          clear hw0 hwe hS f1 f2 f3 f4 f5
          generalize (fun x => sumN (entV z S x) n) = Fz at *
          generalize (fun x => sumN (entV f S x) n) = Ff at *
          go_wp2_with fail
          refine (HEP.out w9 v9 HB9.out HN9.out).mono ?_
          rintro e w10 ⟨d1, u1, rfl, hu1, hb10⟩
          obtain ⟨x1, y1, c1, rfl⟩ := hu1.form
          have HB10 := Hid.mk' (below_chain HB9.out hb10)
          have hbA : Below w10.heap.size w10 (w10.alloc (.cells #[.int .i64 d1, .slice x1 y1 c1] 36)) := (Below.refl _ _).alloc (Nat.le_refl _) _
          have HUA := Hid.mk' (hu1.later hbA)
          have HQA := Hid.mk' ((HQ9.out.later hb10).later hbA)
          have HBA := Hid.mk' (below_chain HB10.out hbA)
          have HCA := Hid.mk' (res_past (x := .int .i64 d1) (y := .slice x1 y1 c1) (w := w10) (t := 36) (Below.refl _ _))
          obtain ⟨wA, hwA⟩ : ∃ wA, wA = w10.alloc (.cells #[.int .i64 d1, .slice x1 y1 c1] 36) := ⟨_, rfl⟩
          obtain ⟨bA, hbAe⟩ : ∃ bA, bA = w10.heap.size := ⟨_, rfl⟩
          rw [← hwA] at HUA HQA HBA HCA
          rw [← hbAe] at HCA
          clear hu1 hb10 hbA HB10 HN9 HQ9
          go_upto_region 11 with fail
          rw [← hwA, ← hbAe]
          clear hwA hbAe
          go_wp2_with fail
          refine (HIQ.out wA HQA.out).mono ?_
          rintro e w11 ⟨v11, rfl, hn11, hb11⟩
          have HN11 := Hid.mk' hn11
          have HB11 := Hid.mk' (below_chain HBA.out hb11)
          go_wp2_with fail
          refine (HEQ.out w11 v11 HB11.out HN11.out).mono ?_
          rintro e w12 ⟨d2, u2, rfl, hu2, hb12⟩
          obtain ⟨x2, y2, c2, rfl⟩ := hu2.form
          have hb1112 := below_chain hb11 hb12
          have HB12 := Hid.mk' (below_chain HB11.out hb12)
          have hbB : Below w12.heap.size w12 (w12.alloc (.cells #[.int .i64 d2, .slice x2 y2 c2] 36)) := (Below.refl _ _).alloc (Nat.le_refl _) _
          have hbAB := below_chain hb1112 hbB
          have HUB := Hid.mk' (hu2.later hbB)
          have HUA2 := Hid.mk' (HUA.out.later hbAB)
          have HBB := Hid.mk' (below_chain HB12.out hbB)
          have p0 : (w12.alloc (.cells #[.int .i64 d2, .slice x2 y2 c2] 36)).cell? ⟨bA, 0, none⟩ = some (.int .i64 d1) := by rw [hbAB.cell (cell_lt HCA.out.1)]; exact HCA.out.1
          have p1 : (w12.alloc (.cells #[.int .i64 d2, .slice x2 y2 c2] 36)).cell? ⟨bA, 1, none⟩ = some (.slice x1 y1 c1) := by rw [hbAB.cell (cell_lt HCA.out.2.1)]; exact HCA.out.2.1
          obtain ⟨r0, r1, _, _⟩ := res_past (x := .int .i64 d2) (y := .slice x2 y2 c2) (w := w12) (t := 36) (Below.refl _ _)
          obtain ⟨wB, hwB⟩ : ∃ wB, wB = w12.alloc (.cells #[.int .i64 d2, .slice x2 y2 c2] 36) := ⟨_, rfl⟩
          obtain ⟨bB, hbBe⟩ : ∃ bB, bB = w12.heap.size := ⟨_, rfl⟩
          rw [← hwB] at HUB HUA2 HBB p0 p1 r0 r1
          rw [← hbBe] at r0 r1
          have HLL := Hid.mk' (HLS.out wB _ _ _ _ HBB.out HUA2.out HUB.out)
          clear hu2 hb11 hb12 hb1112 hbB hbAB hn11 HCA
          go_upto_region 14 with fail
          rw [← hwB, ← hbBe]
          clear hwB hbBe
          go_wp2_with fail
          refine HLL.out.mono ?_
          rintro e w13 ⟨rfl, hb13⟩
          have HB13 := Hid.mk' (below_chain HBB.out hb13)
          clear hb13
          go_wp2_with fail
          go_ret
          exact ⟨rfl, HB13.out⟩
        · have HEP := Hid.mk' (fun (W : World) (y : Value) (hb : Below w.heap.size w W) (hy : NumsAt W y n z) => Entropy_bad a y n z W (HE.out W hb) hy (by omega) hw0)
          have HEQ := Hid.mk' (fun (W : World) (y : Value) (hb : Below w.heap.size w W) (hy : NumsAt W y n f) => Entropy_bad a y n f W (HE.out W hb) hy (by omega) (by rw [hwe]; exact hw0))
          rw [hwe] at HEQ
          obtain ⟨er, he⟩ : ∃ e, errV a (weightsErr z n) = e := ⟨_, rfl⟩
          obtain ⟨t, x, rfl⟩ : ∃ t x, er = .iface t x := by rw [← he, errV_pos a hw0]; exact ⟨_, _, rfl⟩
          rw [he] at HEP HEQ
          clear hw0 hwe f1 f2 f3 f4 f5 he
          go_wp2_with fail
          refine (HEP.out w9 v9 HB9.out HN9.out).mono ?_
          rintro e w10 ⟨rfl, hb10⟩
          have HB10 := Hid.mk' (below_chain HB9.out hb10)
          have hbA : Below w10.heap.size w10 (w10.alloc (.cells #[.int .i64 0, .slice none 0 0] 36)) := (Below.refl _ _).alloc (Nat.le_refl _) _
          have HQA := Hid.mk' ((HQ9.out.later hb10).later hbA)
          have HBA := Hid.mk' (below_chain HB10.out hbA)
          clear hb10 hbA HB10 HN9 HQ9
          go_wp2_with fail
          refine (HIQ.out _ HQA.out).mono ?_
          rintro e w11 ⟨v11, rfl, hn11, hb11⟩
          have HN11 := Hid.mk' hn11
          have HB11 := Hid.mk' (below_chain HBA.out hb11)
          clear hn11 hb11 HBA HQA
          go_wp2_with fail
          refine (HEQ.out w11 v11 HB11.out HN11.out).mono ?_
          rintro e w12 ⟨rfl, hb12⟩
          have HB12 := Hid.mk' (below_chain HB11.out hb12)
          have hle := HB12.out.size
          have HBB := Hid.mk' (HB12.out.alloc hle (.cells #[.int .i64 0, .slice none 0 0] 36))
          clear hb12
          go_wp2_with fail
          go_quiet (fail)
          go_wp2_with fail
          go_ret
          exact ⟨rfl, below_drewN HBB.out _⟩
    · obtain ⟨t, y, rfl⟩ := hx5.iface h0
      clear hx5 hs0 hs1 hb5 h0
      go_wp2_with fail
      go_ret
      exact ⟨rfl, HB5.out⟩
theorem OrderFalls_main (a : Nat → Addr) (ad : Option Addr) (n cap : Nat) (z : Nat → Int) (lad : Option Addr) (lcap : Nat) (l : List MvI) (w : World) (hE : Errs w a) (h : NumsAt w (.slice ad n cap) n z) (_ : n ≤ maxLen) (hl : MvAt w (.slice lad l.length lcap) l) :
    Calls Tryd.prog 3 #[.slice ad n cap, .slice lad l.length lcap] w fun e w' => e = .returned (.bool true) ∧ Below w.heap.size w w' :=
  OrderFalls_all a _ n z _ l w hE h hl
end Go.Proofs.YtgaamcmjonngjaaDoor

/- What the rows' condition on package variables gives a walk: three sentinels. -/
namespace Go.Proofs.YtgaamcmjonngjaaDoor
open Go.ChangeShapes Go.WideShapes Go.RowKit

theorem Tryd.own : ownKnob Tryd.prog.godebug = none := by kernel_rfl
theorem Tryd.star : ("*" ++ "errors.errorString" : String) = "*errors.errorString" := by decide
theorem Tryd.rowE (u : TypeId) (h : Tryd.prog.typeName? 3 u = some "*errors.errorString") : u = 227 :=
  typeName_ptr_named (nm := "errors.errorString") (by rw [Tryd.star]; kernel_rfl) (by kernel_rfl) (by decide) u (by rw [Tryd.star]; exact h)
theorem Tryd.cellsE : Tryd.prog.cellsOf 248 = 1 := by kernel_rfl
theorem Tryd.cellsS : Tryd.prog.cellsOf 9 = 1 := by kernel_rfl
theorem Tryd.g1 : Tryd.prog.globalNamed "demon/api.ErrBound" = some 0 := by kernel_rfl
theorem Tryd.g2 : Tryd.prog.globalNamed "demon/api.ErrShape" = some 1 := by kernel_rfl
theorem Tryd.g7 : Tryd.prog.globalNamed "demon/api.ErrOrder" = some 2 := by kernel_rfl

/-- Any number of listed sentinels of one type: each one's pointer, text and row; no two are one. -/
theorem laid_list {P : Program} {W : World} {nm : String} {ti tp te ts : TypeId} {ms : Array (String × TypeId)} {f : Field}
    (hi : P.underlying ti = some (.interface ms)) (hrow : ∀ u, P.typeName? 3 u = some nm → u = tp)
    (hp : P.underlying tp = some (.pointer te)) (he : P.underlying te = some (.struct #[f])) (hft : f.type = ts) (hfo : f.offset = 0) (hs : P.underlying ts = some .string) (hc : P.cellsOf te = 1) (hcs : P.cellsOf ts = 1) :
    ∀ (L : List (String × List UInt8)) (ps : List MemPlace), (∀ x, x ∈ L → ∃ g, P.globalNamed x.1 = some g ∧ (P.globals[g]?).map (·.type) = some ti) →
      DataW.LaidVars P W (L.map fun x => (x.1, .iface nm (.ptr (.agg [.lit (.string x.2)])))) ps → ps.Nodup →
      (∀ b off, MemPlace.cell b off ∈ ps → (∃ c t, W.heap[b]? = some (.cells c t (0, 0))) ∧ ∀ u v, W.cell? ⟨b, off, none⟩ = some (.iface u v) → Value.okWide P W .any 0 u v) →
      ∃ a : Nat → Addr, (∀ i x, L[i]? = some x → W.var? P x.1 = some #[.iface tp (.pointer (some (a i)))] ∧ (∃ s, W.cell? (a i) = some (.string s) ∧ s.data.toList = x.2) ∧
          (∃ c t, W.heap[(a i).block]? = some (.cells c t (0, 0))) ∧ MemPlace.cell (a i).block (a i).off ∈ ps) ∧
        ∀ i j, i < L.length → j < L.length → i ≠ j → a i ≠ a j := by
  intro L
  induction L with
  | nil => intro ps _ _ _ _; exact ⟨fun _ => default, fun i x h => by simp at h, fun i j h => by simp at h⟩
  | cons x r ih =>
    intro ps hgs hv hnd hrows
    obtain ⟨n, text⟩ := x
    obtain ⟨g0, t0, cs0, f0, p0, q0, hg0, ht0, hv0, hd0, hvr, e0⟩ := hv
    obtain ⟨g, hg, ht⟩ := hgs (n, text) (List.mem_cons_self ..)
    obtain rfl := Option.some.inj (hg.symm.trans hg0)
    obtain rfl := Option.some.inj (ht.symm.trans ht0)
    subst e0
    obtain ⟨l0⟩ := cs0
    have ok0 : ∀ u v, l0 = [.iface u v] → Value.okWide P W .any 0 u v := fun u v e => by
      subst e
      exact (hrows g 0 (by simp [MemPlace.row])).2 u v (by simpa using World.var?_cell hg0 hv0 0)
    obtain ⟨a0, s0, rfl, hc0, hs0, hz0, rfl⟩ := errorString_of_trod hi hrow hp he hft hfo hs hc hcs hd0 ok0
    obtain ⟨c0, tt0, hb0⟩ := (hrows a0.block a0.off (by simp [MemPlace.row])).1
    have hnq : q0.Nodup := List.Nodup.sublist (List.sublist_append_right _ _) hnd
    obtain ⟨a', ha', hne'⟩ := ih q0 (fun x hx => hgs x (List.mem_cons_of_mem _ hx)) hvr hnq (fun b off hm => hrows b off (List.mem_append_right _ hm))
    have hnot : MemPlace.cell a0.block a0.off ∉ q0 := by
      intro hm
      have := (List.nodup_append.1 hnd).2.2
      exact this (.cell a0.block a0.off) (by simp [MemPlace.row]) (.cell a0.block a0.off) hm rfl
    refine ⟨fun i => match i with | 0 => a0 | k + 1 => a' k, ?_, ?_⟩
    · intro i x hx
      cases i with
      | zero =>
        simp only [List.getElem?_cons_zero, Option.some.injEq] at hx
        subst hx
        exact ⟨hv0, ⟨s0, hc0, hs0⟩, ⟨c0, tt0, hb0⟩, by simp [MemPlace.row]⟩
      | succ k =>
        simp only [List.getElem?_cons_succ] at hx
        obtain ⟨h1, h2, h3, h4⟩ := ha' k x hx
        exact ⟨h1, h2, h3, List.mem_append_right _ h4⟩
    · have far : ∀ k, k < r.length → a0 ≠ a' k := fun k hk e => by
        obtain ⟨_, _, _, h4⟩ := ha' k r[k] (by simp [hk])
        rw [← e] at h4
        exact hnot h4
      intro i j hi' hj' hij
      cases i with
      | zero =>
        cases j with
        | zero => exact absurd rfl hij
        | succ k => exact far k (by simpa using hj')
      | succ m =>
        cases j with
        | zero => exact (far m (by simpa using hi')).symm
        | succ k => exact hne' m k (by simpa using hi') (by simpa using hj') (by omega)

/-- The names and texts, in the rows' order. -/
def threeNames : List (String × List UInt8) := [("demon/api.ErrBound", [100, 101, 109, 111, 110, 58, 32, 98, 111, 117, 110, 100]), ("demon/api.ErrShape", [100, 101, 109, 111, 110, 58, 32, 115, 104, 97, 112, 101]), ("demon/api.ErrOrder", [100, 101, 109, 111, 110, 58, 32, 111, 114, 100, 101, 114])]
def laidAll : List (String × DataW Unit) := [("demon/api.ErrBound", Rows.laid_demon_api_ErrBound), ("demon/api.ErrShape", Rows.laid_demon_api_ErrShape), ("demon/api.ErrOrder", Rows.laid_demon_api_ErrOrder)]
theorem laidAll_parts (W : World) : laidMetH Tryd.prog laidAll W = laidMet Tryd.prog (threeNames.map fun x => (x.1, .iface "*errors.errorString" (.ptr (.agg [.lit (.string x.2)])))) W := by kernel_rfl

theorem var_at {W : World} {n : String} {g : Nat} {v : Value} (hg : Tryd.prog.globalNamed n = some g) (h : W.var? Tryd.prog n = some #[v]) : W.cell? ⟨g, 0, none⟩ = some v := by
  simpa using World.var?_cell hg h 0

theorem errs_of_laid {W : World} (h : laidMetH Tryd.prog laidAll W) : ∃ a : Nat → Addr, Errs W a := by
  rw [laidAll_parts] at h
  obtain ⟨ps, hv, hnd, hrows⟩ := h
  obtain ⟨a, ha, hne⟩ := laid_list Tryd.underlying26 Tryd.rowE Tryd.underlying227 Tryd.underlying248 rfl rfl Tryd.underlying9 Tryd.cellsE Tryd.cellsS threeNames ps
    (fun x hx => by
      simp only [threeNames, List.mem_cons, List.not_mem_nil, or_false] at hx
      rcases hx with rfl | rfl | rfl
      · exact ⟨_, Tryd.g1, by kernel_rfl⟩
      · exact ⟨_, Tryd.g2, by kernel_rfl⟩
      · exact ⟨_, Tryd.g7, by kernel_rfl⟩) hv hnd hrows
  refine ⟨fun i => if i = 6 then a 2 else a (i - 1), ⟨var_at Tryd.g1 (ha 0 _ rfl).1, var_at Tryd.g2 (ha 1 _ rfl).1, var_at Tryd.g7 (ha 2 _ rfl).1, fun i hi => ?_, fun i j hi hj hij => ?_⟩⟩
  · rcases (show i = 1 ∨ i = 2 by omega) with rfl | rfl
    · exact (ha 0 _ rfl).2.2.1
    · exact (ha 1 _ rfl).2.2.1
  · show (if i = 6 then a 2 else a (i - 1)) ≠ (if j = 6 then a 2 else a (j - 1))
    rw [if_neg (by omega), if_neg (by omega)]
    exact hne (i - 1) (j - 1) (by simp [threeNames]; omega) (by simp [threeNames]; omega) (by omega)

/-- The door's own heap meets the condition. -/
theorem door_met (os : Os) (args : Array Value) : laidMetH Tryd.prog laidAll ((World.doorLaid Tryd.prog 168 os).forCall (fun _ _ => 0) ⟨#[], args, []⟩).memory := by
  rw [laidAll_parts]
  exact laidMet_of_run' 8 (by kernel_rfl) (by kernel_rfl)
end Go.Proofs.YtgaamcmjonngjaaDoor

/- A parameter of type []int opened. -/
namespace Go.Proofs.YtgaamcmjonngjaaDoor
open Go.ChangeShapes Go.WideShapes Go.ChangeAt Go.RowKit Go.Joins Go.Deep

theorem Tryd.laidOut : laidOutB Tryd.prog = true := by kernel_rfl
theorem Tryd.cellsInt : Tryd.prog.cellsOf 3 = 1 := by kernel_rfl
theorem Tryd.cellsInts : Tryd.prog.cellsOf 22 = 1 := by kernel_rfl

set_option maxRecDepth 100000 in
/-- What a parameter of type []int gives: its slice, its numbers. -/
theorem open_nums {H : Type} {enc : TypeId × Value → H} {W : World} {base : Nat} {v : Value} {d : DataW H} {p : List MemPlace} (hv : Value.okWide Tryd.prog W .any base 22 v)
    (h : DataW.Trod enc Tryd.prog W 0 (fun _ => true) true 22 v d p) :
    ∃ (ad : Option Addr) (n cap : Nat) (z : Nat → Int), v = .slice ad n cap ∧ n ≤ maxLen ∧ NumsAt W (.slice ad n cap) n z := by
  obtain ⟨ad, n, cap, rfl⟩ := okWide_slice Tryd.underlying22 hv
  obtain ⟨fuel, hf⟩ := h
  rcases open_ints Tryd.underlying22 Tryd.underlying3 Tryd.cellsInt hf with ⟨hc, _⟩ | ⟨a, len, cap', zs, hc, _, hl, hm, hz, _, hcell, _⟩
  · simp [Value.cells] at hc
    obtain ⟨rfl, rfl, rfl⟩ := hc
    exact ⟨none, 0, 0, fun _ => 0, rfl, Nat.zero_le _, Or.inl ⟨none, 0, rfl, rfl⟩⟩
  · simp [Value.cells] at hc
    obtain ⟨rfl, rfl, rfl⟩ := hc
    simp only [if_true] at hz
    rcases Nat.eq_zero_or_pos n with rfl | hpos
    · exact ⟨some a, 0, cap, fun _ => 0, rfl, Nat.zero_le _, Or.inl ⟨some a, cap, rfl, rfl⟩⟩
    · obtain ⟨b, o, spot⟩ := a
      have hspot : spot = none := by simpa [Addr.add] using World.cell?_spot (hcell 0 (by omega))
      subst hspot
      refine ⟨_, n, cap, fun i => zs.getD i 0, rfl, by omega, Or.inr ⟨b, o, cap, rfl, hpos, fun i hi => ?_⟩⟩
      have := hcell i (by omega)
      rw [Go.Proofs.YtgaamcmjonngjaaDoor.add_plain] at this
      exact this
end Go.Proofs.YtgaamcmjonngjaaDoor

/- A card's parameter that is a slice of the document's moves, opened. -/
namespace Go.Proofs.YtgaamcmjonngjaaDoor
open Go.ChangeShapes Go.WideShapes Go.ChangeAt Go.RowKit Go.Joins Go.Deep

theorem Tryd.cellsMvd : Tryd.prog.cellsOf 88 = 3 := by kernel_rfl
theorem Tryd.cellsI1 : Tryd.prog.cellsOf 3 = 1 := by kernel_rfl
theorem list_of {α : Type} (n : Nat) (p : Nat → α → Prop) (h : ∀ i, i < n → ∃ c, p i c) : ∃ l : List α, l.length = n ∧ ∀ (i : Nat) (c : α), l[i]? = some c → p i c := by
  induction n with
  | zero => exact ⟨[], rfl, fun i c hc => by simp at hc⟩
  | succ n ih =>
    obtain ⟨l, hl, hp⟩ := ih (fun i hi => h i (by omega))
    obtain ⟨c, hc⟩ := h n (by omega)
    refine ⟨l ++ [c], by simp [hl], fun i d hd => ?_⟩
    rcases Nat.lt_or_ge i l.length with h' | h'
    · rw [List.getElem?_append_left h'] at hd
      exact hp i d hd
    · rw [List.getElem?_append_right h'] at hd
      rcases Nat.eq_or_lt_of_le h' with e | e
      · rw [← e, Nat.sub_self] at hd
        obtain rfl : c = d := by simpa using hd
        rw [← e, hl]; exact hc
      · rw [List.getElem?_eq_none (by simp; omega)] at hd; cases hd
set_option maxRecDepth 100000 in
theorem open_moves {H : Type} {enc : TypeId × Value → H} {W : World} {base : Nat} {v : Value} {d : DataW H} {p : List MemPlace} (hv : Value.okWide Tryd.prog W .any base 23 v)
    (h : DataW.Trod enc Tryd.prog W 0 (fun _ => true) true 23 v d p) :
    ∃ (ad : Option Addr) (cap : Nat) (l : List MvI), v = .slice ad l.length cap ∧ MvAt W (.slice ad l.length cap) l ∧ l.length ≤ maxLen := by
  obtain ⟨ad, n, cap, rfl⟩ := okWide_slice Tryd.underlying23 hv
  obtain ⟨fuel, hf⟩ := h
  rcases open_slice Tryd.underlying23 hf with ⟨hc, _⟩ | ⟨a, len, cap', m, k, D, Pl, hc, _, hl, hm, hmm, _, hx⟩
  · simp [Value.cells] at hc
    obtain ⟨rfl, rfl, rfl⟩ := hc
    exact ⟨none, 0, [], rfl, ⟨_, _, rfl, fun i c hc => by simp at hc⟩, Nat.zero_le _⟩
  · simp [Value.cells] at hc
    obtain ⟨rfl, rfl, rfl⟩ := hc
    simp only [if_true] at hmm
    subst hmm
    have each : ∀ i, i < n → ∃ c : MvI, W.cell? (a.add (i * 3)) = some (.int .i64 c.f) ∧ W.cell? (a.add (i * 3 + 1)) = some (.int .i64 c.t) ∧ W.cell? (a.add (i * 3 + 2)) = some (.int .i64 c.s) := by
      intro i hi
      obtain ⟨cs', h1, h2⟩ := hx i (by omega)
      rw [Tryd.cellsMvd] at h1
      obtain ⟨_, hlen, hcell⟩ := World.cells?_some h1
      obtain ⟨xs, k', _, _, _, hxl, hg⟩ := DataW.trod_struct Tryd.underlying88 h2
      match xs, hxl, cs', hlen with
      | [y0, y1, y2], _, [v0, v1, v2], _ =>
        have g0 := hg 0 _ rfl
        have g1 := hg 1 _ rfl
        have g2 := hg 2 _ rfl
        simp [Tryd.cellsI1] at g0 g1 g2
        have e0 := hcell 0 (by omega)
        have e1 := hcell 1 (by omega)
        have e2 := hcell 2 (by omega)
        rw [Go.Deep.add_add] at e0 e1 e2
        obtain ⟨n0, r0, _, _⟩ := DataW.trod_int Tryd.underlying3 g0
        obtain ⟨n1, r1, _, _⟩ := DataW.trod_int Tryd.underlying3 g1
        obtain ⟨n2, r2, _, _⟩ := DataW.trod_int Tryd.underlying3 g2
        simp only [List.cons.injEq, and_true] at r0 r1 r2
        subst r0 r1 r2
        exact ⟨⟨n0, n1, n2⟩, by simpa using e0, by simpa using e1, by simpa using e2⟩
    obtain ⟨l, hll, hlp⟩ := list_of n _ each
    subst hll
    obtain ⟨b, o, spot⟩ := a
    refine ⟨_, _, l, rfl, ⟨_, _, rfl, fun i c hc => ?_⟩, by omega⟩
    obtain ⟨h0, h1, h2⟩ := hlp i c hc
    have hspot : spot = none := by
      have hi : 0 < l.length := by
        rcases Nat.eq_zero_or_pos l.length with h' | h'
        · rw [List.eq_nil_of_length_eq_zero h'] at hc; simp at hc
        · exact h'
      have := (hlp 0 _ (List.getElem?_eq_getElem hi)).1
      simpa [Addr.add] using World.cell?_spot this
    subst hspot
    rw [Go.Proofs.YtgaamcmjonngjaaDoor.add_plain] at h0 h1 h2
    exact ⟨b, o, rfl, h0, by rw [Nat.add_assoc]; exact h1, by rw [Nat.add_assoc]; exact h2⟩
end Go.Proofs.YtgaamcmjonngjaaDoor
