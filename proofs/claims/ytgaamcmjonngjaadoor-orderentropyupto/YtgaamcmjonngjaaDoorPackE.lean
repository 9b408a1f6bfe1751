/- Moves; does one fit? -/
import Derived.Test.YtgaamcmjonngjaaDoorPackD
import Derived.Deep.RegionHeld3
import Derived.BigQuiet
import Derived.Test.YtgaamcmjonngjaaDoorValidWalk
import Derived.Test.YtgaamcmjonngjaaDoorWeights
import Derived.Deep.Onto
namespace Go.Proofs.YtgaamcmjonngjaaDoor
open Go.RowKit

/-- A move. -/
structure MvI where
  f : Int
  t : Int
  s : Int
def setF (z : Nat → Int) (i : Nat) (x : Int) : Nat → Int := fun j => if j = i then x else z j
theorem setF_at (z : Nat → Int) (i : Nat) (x : Int) : setF z i x i = x := if_pos rfl
theorem setF_other {z : Nat → Int} {i j : Nat} {x : Int} (h : j ≠ i) : setF z i x j = z j := if_neg h
/-- It does not fit. -/
def mvB (n : Nat) (z : Nat → Int) (m : MvI) : Bool := decide (m.f < 0) || decide (m.t < 0) || decide ((n : Int) ≤ m.f) || decide ((n : Int) ≤ m.t) || decide (m.f = m.t) || decide (m.s < 0) || decide (z m.f.toNat - z m.t.toNat < m.s)
def mvS (z : Nat → Int) (m : MvI) : Nat → Int := setF (setF z m.f.toNat (z m.f.toNat - m.s)) m.t.toNat (z m.t.toNat + m.s)
/-- What moves make, or where they fail. -/
def runM (n : Nat) : (Nat → Int) → List MvI → Nat → Nat ⊕ (Nat → Int)
  | z, [], _ => .inr z
  | z, m :: l, k => if mvB n z m = true then .inl k else runM n (mvS z m) l (k + 1)
theorem mvB_no {n : Nat} {z : Nat → Int} {m : MvI} (h : mvB n z m = false) : 0 ≤ m.f ∧ 0 ≤ m.t ∧ m.f < n ∧ m.t < n ∧ m.f ≠ m.t ∧ 0 ≤ m.s ∧ m.s ≤ z m.f.toNat - z m.t.toNat := by
  simp [mvB] at h
  omega
theorem mvB_yes {n : Nat} {z : Nat → Int} {m : MvI} (h : mvB n z m = true) : (m.f < 0 ∨ (0 ≤ m.f ∧ (n : Int) ≤ m.f)) ∨ (0 ≤ m.f ∧ m.f < n ∧ (m.t < 0 ∨ (0 ≤ m.t ∧ (n : Int) ≤ m.t))) ∨ (0 ≤ m.f ∧ m.f < n ∧ 0 ≤ m.t ∧ m.t < n ∧ m.f = m.t) ∨ (0 ≤ m.f ∧ m.f < n ∧ 0 ≤ m.t ∧ m.t < n ∧ m.f ≠ m.t ∧ m.s < 0) ∨ (0 ≤ m.f ∧ m.f < n ∧ 0 ≤ m.t ∧ m.t < n ∧ m.f ≠ m.t ∧ 0 ≤ m.s ∧ z m.f.toNat - z m.t.toNat < m.s) := by
  simp [mvB] at h
  omega
theorem mvS_right {n : Nat} {z : Nat → Int} {m : MvI} (h : mvB n z m = false) (hz : ∀ k, k < n → 0 ≤ z k ∧ z k ≤ 4096) : ∀ k, k < n → 0 ≤ mvS z m k ∧ mvS z m k ≤ 4096 := by
  obtain ⟨h1, h2, h3, h4, h5, h6, h7⟩ := mvB_no h
  intro k hk
  have a := hz m.f.toNat (by omega)
  have b := hz m.t.toNat (by omega)
  have c := hz k hk
  unfold mvS setF
  by_cases e1 : k = m.t.toNat
  · rw [if_pos e1]; omega
  · rw [if_neg e1]
    by_cases e2 : k = m.f.toNat
    · rw [if_pos e2]; omega
    · rw [if_neg e2]; exact c

theorem isPlace_any (ad : Option Addr) (n cap : Nat) (x : Int) (w : World) : Calls Tryd.prog 73 #[.slice ad n cap, .int .i64 x] w fun e w' => e = .returned (.bool (decide (0 ≤ x) && decide (x < (n : Int)))) ∧ w' = w := by
  by_cases h1 : 0 ≤ x
  · by_cases h2 : x < (n : Int)
    · rw [show (decide (0 ≤ x) && decide (x < (n : Int))) = true from by simp [h1, h2]]
      go_enter Tryd.func73, Tryd.ntmps73
      go_wp2_with fail
      go_ret
      exact ⟨rfl, rfl⟩
    · rw [show (decide (0 ≤ x) && decide (x < (n : Int))) = false from by simp [h2]]
      go_enter Tryd.func73, Tryd.ntmps73
      go_wp2_with fail
      go_ret
      exact ⟨rfl, rfl⟩
  · rw [show (decide (0 ≤ x) && decide (x < (n : Int))) = false from by simp [h1]]
    go_enter Tryd.func73, Tryd.ntmps73
    go_wp2_with fail
    go_ret
    exact ⟨rfl, rfl⟩
theorem place_yes (ad : Option Addr) (n cap : Nat) (f : Int) (h1 : 0 ≤ f) (h2 : f < (n : Int)) : ∀ x W, x = f → Calls Tryd.prog 73 #[.slice ad n cap, .int .i64 x] W fun e w' => e = .returned (.bool true) ∧ w' = W := by
  rintro x W rfl
  have := isPlace_any ad n cap x W
  rwa [show (decide (0 ≤ x) && decide (x < (n : Int))) = true from by simp [h1, h2]] at this
theorem place_no (ad : Option Addr) (n cap : Nat) (f : Int) (h : f < 0 ∨ (0 ≤ f ∧ (n : Int) ≤ f)) : ∀ x W, x = f → Calls Tryd.prog 73 #[.slice ad n cap, .int .i64 x] W fun e w' => e = .returned (.bool false) ∧ w' = W := by
  rintro x W rfl
  have := isPlace_any ad n cap x W
  rwa [show (decide (0 ≤ x) && decide (x < (n : Int))) = false from by simp; omega] at this

set_option maxRecDepth 100000 in
set_option maxHeartbeats 4000000 in
theorem fits_any (m : MvI) (v : Value) (n : Nat) (z : Nat → Int) (w : World) (h : NumsAt w v n z) (hz : ∀ k, k < n → 0 ≤ z k ∧ z k ≤ 4096) :
    Calls Tryd.prog 39 #[.agg #[.int .i64 m.f, .int .i64 m.t, .int .i64 m.s], v] w fun e w' => e = .returned (.bool (!mvB n z m)) ∧ Below w.heap.size w w' := by
  obtain ⟨ad, cap, rfl⟩ := h.form
  obtain ⟨f, t, s⟩ := m
  have hb0 : Below w.heap.size w (w.alloc (.cells #[.int .i64 f, .int .i64 t, .int .i64 s] 83)) := (Below.refl _ _).alloc (Nat.le_refl _) _
  have HB := Hid.mk' hb0
  have hr : ∀ k, k < n → ∃ b o, ad = some ⟨b, o, none⟩ ∧ (w.alloc (.cells #[.int .i64 f, .int .i64 t, .int .i64 s] 83)).cell? ⟨b, o + k, none⟩ = some (.int .i64 (z k)) := fun k hk => by
    rcases h.later hb0 with ⟨_, _, h1', h2'⟩ | ⟨b, o, c, h1', _, h2⟩
    · omega
    · simp only [Value.slice.injEq, true_and] at h1'
      exact ⟨b, o, h1'.1, h2 k hk⟩
  have HR := Hid.mk' hr
  clear h hb0 hr
  have c0 : (w.alloc (.cells #[.int .i64 f, .int .i64 t, .int .i64 s] 83)).cell? ⟨w.heap.size, 0, none⟩ = some (.int .i64 f) := by simp
  have c1 : (w.alloc (.cells #[.int .i64 f, .int .i64 t, .int .i64 s] 83)).cell? ⟨w.heap.size, 1, none⟩ = some (.int .i64 t) := by simp
  have c2 : (w.alloc (.cells #[.int .i64 f, .int .i64 t, .int .i64 s] 83)).cell? ⟨w.heap.size, 2, none⟩ = some (.int .i64 s) := by simp
  generalize hW : w.alloc (.cells #[.int .i64 f, .int .i64 t, .int .i64 s] 83) = W at *
  have HW := Hid.mk' hW
  cases hB : mvB n z ⟨f, t, s⟩ with
  | true =>
    rcases mvB_yes hB with hy | ⟨y1, y2, hy⟩ | ⟨y1, y2, y3, y4, hy⟩ | ⟨y1, y2, y3, y4, y5, hy⟩ | ⟨y1, y2, y3, y4, y5, y6, hy⟩
    · have HP := Hid.mk' (place_no ad n cap f hy)
      clear hB hy
      clear hz
      go_enter Tryd.func39, Tryd.ntmps39
      go_wp2_with fail
      go_quiet ((go_at_call 73; exact Calls.quiet_of_same (HP.out _ _ rfl)))
      go_wp2_with fail
      go_ret
      exact ⟨rfl, below_drewN HB.out _⟩
    · have HP := Hid.mk' (place_yes ad n cap f y1 y2)
      have HQ := Hid.mk' (place_no ad n cap t hy)
      clear hB hy y1 y2
      clear hz
      go_enter Tryd.func39, Tryd.ntmps39
      go_wp2_with fail
      go_quiet ((go_at_call 73; first | exact Calls.quiet_of_same (HP.out _ _ rfl) | exact Calls.quiet_of_same (HQ.out _ _ rfl)))
      go_wp2_with fail
      go_ret
      exact ⟨rfl, below_drewN HB.out _⟩
    · simp only at hy
      subst hy
      have HP := Hid.mk' (place_yes ad n cap f y1 y2)
      clear hB y1 y2 y3 y4
      have e1 : (f != f) = false := by simp
      clear hz
      go_enter Tryd.func39, Tryd.ntmps39
      go_wp2_with fail
      go_quiet ((go_at_call 73; exact Calls.quiet_of_same (HP.out _ _ rfl)))
      go_wp2_with fail
      go_ret
      exact ⟨rfl, below_drewN HB.out _⟩
    · have HP := Hid.mk' (place_yes ad n cap f y1 y2)
      have HQ := Hid.mk' (place_yes ad n cap t y3 y4)
      simp only at hy y5
      clear hB y1 y2 y3 y4
      have e1 : (f != t) = true := by simp; exact y5
      have e2 : decide (0 ≤ s) = false := by simp; omega
      clear hz
      go_enter Tryd.func39, Tryd.ntmps39
      go_wp2_with fail
      go_quiet ((go_at_call 73; first | exact Calls.quiet_of_same (HP.out _ _ rfl) | exact Calls.quiet_of_same (HQ.out _ _ rfl)))
      go_wp2_with fail
      go_ret
      exact ⟨rfl, below_drewN HB.out _⟩
    · simp only at hy y1 y2 y3 y4 y5 y6
      obtain ⟨i, rfl⟩ : ∃ i : Nat, f = (i : Int) := ⟨f.toNat, by omega⟩
      obtain ⟨j, rfl⟩ : ∃ j : Nat, t = (j : Int) := ⟨t.toNat, by omega⟩
      simp only [Int.toNat_natCast] at hy
      have HP := Hid.mk' (place_yes ad n cap i y1 y2)
      have HQ := Hid.mk' (place_yes ad n cap j y3 y4)
      obtain ⟨b, o, rfl, hi⟩ := HR.out i (by omega)
      obtain ⟨b', o', e, hj⟩ := HR.out j (by omega)
      obtain ⟨rfl, rfl⟩ : b = b' ∧ o = o' := by simpa using e
      have a1 := hz i (by omega)
      have a2 := hz j (by omega)
      generalize z i = zi at *
      generalize z j = zj at *
      clear hB e
      have e1 : ((i : Int) != (j : Int)) = true := by simp; omega
      have e2 : decide (0 ≤ s) = true := by simp; omega
      have e3 : decide (s ≤ zi - zj) = false := by simp; omega
      clear hz
      go_enter Tryd.func39, Tryd.ntmps39
      go_wp2_with fail
      go_quiet ((go_at_call 73; first | exact Calls.quiet_of_same (HP.out _ _ rfl) | exact Calls.quiet_of_same (HQ.out _ _ rfl)))
      go_wp2_with fail
      go_ret
      exact ⟨rfl, below_drewN HB.out _⟩
  | false =>
    obtain ⟨y1, y3, y2, y4, y5, y6, hy⟩ := mvB_no hB
    simp only at hy y1 y2 y3 y4 y5 y6
    obtain ⟨i, rfl⟩ : ∃ i : Nat, f = (i : Int) := ⟨f.toNat, by omega⟩
    obtain ⟨j, rfl⟩ : ∃ j : Nat, t = (j : Int) := ⟨t.toNat, by omega⟩
    simp only [Int.toNat_natCast] at hy
    have HP := Hid.mk' (place_yes ad n cap i y1 y2)
    have HQ := Hid.mk' (place_yes ad n cap j y3 y4)
    obtain ⟨b, o, rfl, hi⟩ := HR.out i (by omega)
    obtain ⟨b', o', e, hj⟩ := HR.out j (by omega)
    obtain ⟨rfl, rfl⟩ : b = b' ∧ o = o' := by simpa using e
    have a1 := hz i (by omega)
    have a2 := hz j (by omega)
    generalize z i = zi at *
    generalize z j = zj at *
    clear hB e
    have e1 : ((i : Int) != (j : Int)) = true := by simp; omega
    have e2 : decide (0 ≤ s) = true := by simp; omega
    have e3 : decide (s ≤ zi - zj) = true := by simp; omega
    clear hz
    go_enter Tryd.func39, Tryd.ntmps39
    go_wp2_with fail
    go_quiet ((go_at_call 73; first | exact Calls.quiet_of_same (HP.out _ _ rfl) | exact Calls.quiet_of_same (HQ.out _ _ rfl)))
    go_wp2_with fail
    go_ret
    exact ⟨rfl, below_drewN HB.out _⟩
end Go.Proofs.YtgaamcmjonngjaaDoor

/- A copy of a list, and what is put into it. -/
namespace Go.Proofs.YtgaamcmjonngjaaDoor
open Go.RowKit

theorem Fills.later {w W W' : World} {g T : Nat} {f : Nat → Int} (h : Fills w W g T f) (hb : Below W.heap.size W W') : Fills w W' g T f :=
  ⟨h.row.later hb, fun i hi => by rw [hb.frozen (cell_lt (h.row i hi))]; exact h.fz i hi, below_chain h.below hb, h.hg⟩
/-- A list that may be put into; none has no row. -/
def FillV (w W : World) (v : Value) (n : Nat) (f : Nat → Int) : Prop := Below w.heap.size w W ∧ ((n = 0 ∧ v = .slice none 0 0) ∨ ∃ g cap, v = .slice (some ⟨g, 0, none⟩) n cap ∧ Fills w W g n f)
theorem FillV.later {w W W' : World} {v : Value} {n : Nat} {f : Nat → Int} (h : FillV w W v n f) (hb : Below W.heap.size W W') : FillV w W' v n f := by
  refine ⟨below_chain h.1 hb, ?_⟩
  rcases h.2 with h | ⟨g, cap, hv, hf⟩
  · exact Or.inl h
  · exact Or.inr ⟨g, cap, hv, hf.later hb⟩
theorem FillV.nums {w W : World} {v : Value} {n : Nat} {f : Nat → Int} (h : FillV w W v n f) : NumsAt W v n f := by
  rcases h.2 with ⟨h0, hv⟩ | ⟨g, cap, hv, hf⟩
  · exact Or.inl ⟨_, _, hv, h0⟩
  · rcases Nat.eq_zero_or_pos n with h0 | h0
    · exact Or.inl ⟨_, _, by rw [hv, h0], h0⟩
    · exact Or.inr ⟨g, 0, cap, hv, h0, hf.row⟩
theorem FillV.some {w W : World} {v : Value} {n : Nat} {f : Nat → Int} (h : FillV w W v n f) (h0 : 0 < n) : ∃ g cap, v = .slice (some ⟨g, 0, none⟩) n cap ∧ Fills w W g n f := by
  rcases h.2 with ⟨h1, _⟩ | h
  · omega
  · exact h
theorem own_fill {w W : World} {v : Value} {n : Nat} {z : Nat → Int} {t : TypeId} (h : W.ownsRow w.heap.size t 1 v n (numCells z n)) (hb : Below w.heap.size w W) : FillV w W v n z := by
  refine ⟨hb, ?_⟩
  obtain ⟨hl, hr⟩ := h
  rcases hr with ⟨hx, h0⟩ | ⟨g', cap', cur, hv, hg, hh, _, _, hs, ht⟩
  · exact Or.inl ⟨h0, hx⟩
  · refine Or.inr ⟨g', cap', hv, fun i hi => ?_, fun i hi => ?_, hb, hg⟩
    · rw [← numCells_at z n i hi, ← ht, List.getElem?_take_of_lt (by omega)]
      simp [World.cell?, hh]
    · simp [World.frozen?, hh]
set_option maxRecDepth 100000 in
theorem clone_own (v : Value) (n : Nat) (z : Nat → Int) (w : World) (h : (v = .slice none 0 0 ∧ n = 0) ∨ ∃ g cap, v = .slice (some ⟨g, 0, none⟩) n cap ∧ RowAt w g 0 n z) (hn : n ≤ 100000) :
    Calls Tryd.prog 38 #[v] w fun e w' => ∃ v', e = .returned v' ∧ FillV w w' v' n z := by
  rcases h with ⟨rfl, rfl⟩ | ⟨g, cap, rfl, hr⟩
  · have he : ∀ w : World, (binOp .eql 22 (.slice none 0 0) (.slice none 0 0)).run Tryd.prog w = .ok (.bool true) w := fun _ => rfl
    go_enter Tryd.func38, Tryd.ntmps38
    go_wp2_with fail
    go_ret
    exact ⟨_, rfl, Below.refl _ _, Or.inl ⟨rfl, rfl⟩⟩
  · refine (Any.slices_Clone_int (ρ := Tryd.cloneA_ren) Tryd.cloneA g 0 n cap (rowL z n) w (by rw [rowL_length]; exact Nat.le_refl _) (by omega) (fun j hj => ?_)).mono ?_
    · rw [rowL_length] at hj
      rw [hr j hj]
      simp [rowL, hj]
    · rintro e w' ⟨v', rfl, h1, _, h2⟩
      refine ⟨v', rfl, ?_⟩
      rw [List.take_of_length_le (by rw [rowL_length]; exact Nat.le_refl _)] at h1
      have h3 : w'.ownsRow w.heap.size 3 1 v' n (numCells z n) := by rw [← cellL_row]; exact h1
      exact own_fill h3 h2
end Go.Proofs.YtgaamcmjonngjaaDoor

/- Errors with their places, of a process: what they are in memory. -/
namespace Go.Proofs.YtgaamcmjonngjaaDoor
open Go.RowKit

/-- An error by its number and place, in memory. -/
def ErrPl (a : Nat → Addr) (w : World) (v : Value) (c : Nat × Int) : Prop :=
  (v = errV a c.1 ∧ c.2 = -1 ∧ c.1 ≤ 8) ∨ ∃ pb, v = .iface 85 (.pointer (some ⟨pb, 0, none⟩)) ∧ w.cell? ⟨pb, 0, none⟩ = some (.int .i64 c.2) ∧ w.cell? ⟨pb, 1, none⟩ = some (.iface 227 (.pointer (some (a (c.1 - 1))))) ∧ 1 ≤ c.1 ∧ c.1 ≤ 8
theorem ErrPl.later {a : Nat → Addr} {w w' : World} {v : Value} {c : Nat × Int} (h : ErrPl a w v c) (hb : Below w.heap.size w w') : ErrPl a w' v c := by
  rcases h with h | ⟨pb, h1, h2, h3, h4⟩
  · exact Or.inl h
  · exact Or.inr ⟨pb, h1, by rw [hb.cell (cell_lt h2)]; exact h2, by rw [hb.cell (cell_lt h3)]; exact h3, h4⟩
theorem ErrPl.iface {a : Nat → Addr} {w : World} {v : Value} {c : Nat × Int} (h : ErrPl a w v c) (h0 : c.1 ≠ 0) : ∃ t x, v = .iface t x := by
  rcases h with ⟨rfl, _, _⟩ | ⟨pb, rfl, _⟩
  · rw [errV_pos a h0]; exact ⟨_, _, rfl⟩
  · exact ⟨_, _, rfl⟩
theorem ErrPl.nil0 {a : Nat → Addr} {w : World} {v : Value} {c : Nat × Int} (h : ErrPl a w v c) (h0 : c.1 = 0) : v = .nilIface := by
  rcases h with ⟨rfl, _, _⟩ | ⟨pb, rfl, _, _, h1, _⟩
  · rw [h0, errV_zero]
  · omega
end Go.Proofs.YtgaamcmjonngjaaDoor

/- The program's Apply. -/
namespace Go.Proofs.YtgaamcmjonngjaaDoor
open Go.RowKit

/-- Moves in memory. -/
def MvAt (w : World) (v : Value) (l : List MvI) : Prop := ∃ ad cap, v = .slice ad l.length cap ∧ ∀ i m, l[i]? = some m → ∃ b o, ad = some ⟨b, o, none⟩ ∧ w.cell? ⟨b, o + i * 3, none⟩ = some (.int .i64 m.f) ∧ w.cell? ⟨b, o + i * 3 + 1, none⟩ = some (.int .i64 m.t) ∧ w.cell? ⟨b, o + i * 3 + 2, none⟩ = some (.int .i64 m.s)
theorem MvAt.later {w w' : World} {v : Value} {l : List MvI} (h : MvAt w v l) (hb : Below w.heap.size w w') : MvAt w' v l := by
  obtain ⟨ad, cap, hv, hc⟩ := h
  refine ⟨ad, cap, hv, fun i c hi => ?_⟩
  obtain ⟨b, o, ha, h0, h1, h2⟩ := hc i c hi
  refine ⟨b, o, ha, ?_, ?_, ?_⟩
  · rw [hb.cell (cell_lt h0)]; exact h0
  · rw [hb.cell (cell_lt h1)]; exact h1
  · rw [hb.cell (cell_lt h2)]; exact h2
theorem MvAt.form {w : World} {v : Value} {l : List MvI} (h : MvAt w v l) : ∃ ad cap, v = .slice ad l.length cap := let ⟨ad, cap, hv, _⟩ := h; ⟨ad, cap, hv⟩
theorem MvAt.at {w : World} {ad : Option Addr} {n cap : Nat} {l : List MvI} (h : MvAt w (.slice ad n cap) l) {i : Nat} {m : MvI} (hi : l[i]? = some m) : ∃ b o, ad = some ⟨b, o, none⟩ ∧ w.cell? ⟨b, o + i * 3, none⟩ = some (.int .i64 m.f) ∧ w.cell? ⟨b, o + i * 3 + 1, none⟩ = some (.int .i64 m.t) ∧ w.cell? ⟨b, o + i * 3 + 2, none⟩ = some (.int .i64 m.s) := by
  obtain ⟨ad', cap', hv, hc⟩ := h
  obtain ⟨rfl, _, rfl⟩ : ad = ad' ∧ n = l.length ∧ cap = cap' := by simpa using hv
  exact hc i m hi
theorem drop_mv {l : List MvI} {k : Nat} {m : MvI} (h : l[k]? = some m) : l.drop k = m :: l.drop (k + 1) := by
  obtain ⟨hi, rfl⟩ := List.getElem?_eq_some_iff.1 h
  exact List.drop_eq_getElem_cons hi

/-- What Apply says; what it makes. -/
def apE (n : Nat) (z : Nat → Int) (l : List MvI) : Nat × Int :=
  if 16 < n ∨ 4000 < l.length then (2, -1) else if noN z n = true then (3, -1) else
    match runM n z l 0 with
    | .inl i => (7, (i : Int))
    | .inr _ => (0, -1)
def apZ (n : Nat) (z : Nat → Int) (l : List MvI) : Nat → Int :=
  match runM n z l 0 with
  | .inl _ => z
  | .inr f => f
theorem apE_big {n : Nat} {z : Nat → Int} {l : List MvI} (h : 16 < n ∨ 4000 < l.length) : apE n z l = (2, -1) := if_pos h
theorem apE_none {n : Nat} {z : Nat → Int} {l : List MvI} (h : ¬ (16 < n ∨ 4000 < l.length)) (h2 : noN z n = true) : apE n z l = (3, -1) := by unfold apE; rw [if_neg h, if_pos h2]
theorem apE_go {n : Nat} {z : Nat → Int} {l : List MvI} (h : ¬ (16 < n ∨ 4000 < l.length)) (h2 : noN z n = false) : apE n z l = match runM n z l 0 with
    | .inl i => (7, (i : Int))
    | .inr _ => (0, -1) := by unfold apE; rw [if_neg h, h2, if_neg (by decide)]
theorem run_bad {n : Nat} {z f : Nat → Int} {l : List MvI} {k : Nat} {m : MvI} (h : runM n z l 0 = runM n f (l.drop k) k) (hm : l[k]? = some m) (hb : mvB n f m = true) : runM n z l 0 = .inl k := by
  rw [h, drop_mv hm]; show (if mvB n f m = true then _ else _) = _; rw [if_pos hb]
theorem run_next {n : Nat} {z f : Nat → Int} {l : List MvI} {k : Nat} {m : MvI} (h : runM n z l 0 = runM n f (l.drop k) k) (hm : l[k]? = some m) (hb : mvB n f m = false) : runM n z l 0 = runM n (mvS f m) (l.drop (k + 1)) (k + 1) := by
  rw [h, drop_mv hm]; show (if mvB n f m = true then _ else _) = _; rw [hb, if_neg (by decide)]
theorem run_end {n : Nat} {z f : Nat → Int} {l : List MvI} (h : runM n z l 0 = runM n f (l.drop l.length) l.length) : runM n z l 0 = .inr f := by
  rw [h, List.drop_length]; rfl

end Go.Proofs.YtgaamcmjonngjaaDoor

/- HARDY, LITTLEWOOD and POLYA: the moves from one list to another one that it is above. -/
namespace Go.Proofs.YtgaamcmjonngjaaDoor

/-- How many are not 0. -/
def nzN (d : Nat → Int) : Nat → Nat
  | 0 => 0
  | k + 1 => nzN d k + if d k = 0 then 0 else 1
theorem nz_le (d : Nat → Int) : ∀ n, nzN d n ≤ n
  | 0 => Nat.le_refl _
  | n + 1 => by have := nz_le d n; unfold nzN; split <;> omega
theorem nz_zero {d : Nat → Int} : ∀ {n : Nat}, nzN d n = 0 → ∀ k, k < n → d k = 0
  | 0, _, k, hk => by omega
  | n + 1, h, k, hk => by
    unfold nzN at h
    by_cases h1 : d n = 0
    · rw [if_pos h1] at h
      rcases Nat.lt_or_ge k n with h2 | h2
      · exact nz_zero (by omega) k h2
      · obtain rfl : k = n := by omega
        exact h1
    · rw [if_neg h1] at h; omega
theorem sum_zeroO {d : Nat → Int} : ∀ {n : Nat}, (∀ k, k < n → d k = 0) → sumN d n = 0
  | 0, _ => rfl
  | n + 1, h => by show sumN d n + d n = 0; rw [sum_zeroO (fun k hk => h k (by omega)), h n (by omega)]; rfl
theorem nz_one {d : Nat → Int} : ∀ {n : Nat}, nzN d n = 1 → sumN d n ≠ 0
  | 0, h => by simp [nzN] at h
  | n + 1, h => by
    unfold nzN at h
    show sumN d n + d n ≠ 0
    by_cases h1 : d n = 0
    · rw [if_pos h1] at h
      have := nz_one (d := d) (n := n) (by omega)
      omega
    · rw [if_neg h1] at h
      rw [sum_zeroO (nz_zero (by omega))]
      omega
theorem nz_mono {d d' : Nat → Int} : ∀ {n : Nat}, (∀ k, k < n → d' k ≠ 0 → d k ≠ 0) → nzN d' n ≤ nzN d n
  | 0, _ => Nat.le_refl _
  | n + 1, h => by
    have h1 := nz_mono (d := d) (d' := d') (n := n) (fun k hk => h k (by omega))
    have h2 := h n (by omega)
    unfold nzN
    by_cases e : d' n = 0
    · rw [if_pos e]; split <;> omega
    · rw [if_neg e, if_neg (h2 e)]; omega
theorem nz_lt {d d' : Nat → Int} : ∀ {n k0 : Nat}, (∀ k, k < n → d' k ≠ 0 → d k ≠ 0) → k0 < n → d k0 ≠ 0 → d' k0 = 0 → nzN d' n + 1 ≤ nzN d n
  | 0, _, _, h, _, _ => by omega
  | n + 1, k0, h, hk, h1, h2 => by
    have hn := h n (by omega)
    unfold nzN
    rcases Nat.lt_or_ge k0 n with h3 | h3
    · have ih := nz_lt (d := d) (d' := d') (n := n) (k0 := k0) (fun k hk => h k (by omega)) h3 h1 h2
      by_cases e : d' n = 0
      · rw [if_pos e]; split <;> omega
      · rw [if_neg e, if_neg (hn e)]; omega
    · obtain rfl : k0 = n := by omega
      have := nz_mono (d := d) (d' := d') (n := k0) (fun k hk => h k (by omega))
      rw [if_pos h2, if_neg h1]; omega
theorem sumN_set (d : Nat → Int) (i : Nat) (x : Int) : ∀ k, sumN (setF d i x) k = sumN d k + if i < k then x - d i else 0
  | 0 => by simp [sumN]
  | k + 1 => by
    show sumN (setF d i x) k + setF d i x k = sumN d k + d k + _
    rw [sumN_set d i x k]
    unfold setF
    by_cases h : k = i
    · subst h
      rw [if_pos rfl, if_neg (by omega), if_pos (by omega)]; omega
    · rw [if_neg h]
      by_cases h2 : i < k
      · rw [if_pos h2, if_pos (by omega)]; omega
      · rw [if_neg h2, if_neg (by omega)]; omega
theorem run_snoc (n : Nat) (m : MvI) : ∀ (l : List MvI) (z f : Nat → Int) (k : Nat), runM n z l k = .inr f → mvB n f m = false → runM n z (l ++ [m]) k = .inr (mvS f m)
  | [], z, f, k, h, hb => by
    obtain rfl : z = f := by simpa [runM] using h
    show (if mvB n z m = true then _ else _) = _
    rw [hb, if_neg (by decide)]; rfl
  | c :: l, z, f, k, h, hb => by
    have h1 : (if mvB n z c = true then Sum.inl k else runM n (mvS z c) l (k + 1)) = .inr f := h
    show (if mvB n z c = true then Sum.inl k else runM n (mvS z c) (l ++ [m]) (k + 1)) = _
    by_cases hc : mvB n z c = true
    · rw [if_pos hc] at h1; cases h1
    · rw [if_neg hc] at h1 ⊢
      exact run_snoc n m l _ f _ h1 hb
theorem perm_inj {D : List Nat} {n i j : Nat} (h : D.Perm (List.range n)) (hi : i < n) (hj : j < n) (e : D.getD i 0 = D.getD j 0) : i = j := by
  have hl : D.length = n := by rw [h.length_eq, List.length_range]
  have hd : D.Nodup := h.nodup_iff.2 List.nodup_range
  rw [List.getD_eq_getElem?_getD, List.getD_eq_getElem?_getD, List.getElem?_eq_getElem (by omega), List.getElem?_eq_getElem (by omega)] at e
  simp only [Option.getD_some] at e
  have hp := List.pairwise_iff_getElem.1 hd
  rcases Nat.lt_trichotomy i j with h1 | h1 | h1
  · exact absurd e (hp i j (by omega) (by omega) h1)
  · exact h1
  · exact absurd e.symm (hp j i (by omega) (by omega) h1)
theorem perm_lt' {D : List Nat} {n j : Nat} (h : D.Perm (List.range n)) (hj : j < n) : D.getD j 0 < n := by
  have hl : D.length = n := by rw [h.length_eq, List.length_range]
  have hm : D.getD j 0 ∈ D := by
    rw [List.getD_eq_getElem?_getD, List.getElem?_eq_getElem (by omega)]
    exact List.getElem_mem _
  exact List.mem_range.1 (h.mem_iff.1 hm)

theorem mvB_of {n : Nat} {z : Nat → Int} {i j : Nat} {s : Int} (hi : i < n) (hj : j < n) (hij : i ≠ j) (h0 : 0 ≤ s) (hs : s ≤ z i - z j) : mvB n z ⟨(i : Int), (j : Int), s⟩ = false := by
  simp [mvB]
  omega
/-- Where Moves stands: from, tq, what each has too much, the moves so far. -/
structure MvJ (n : Nat) (p q : Nat → Int) (D : List Nat) (fr tq : Nat) (d : Nat → Int) (ml : List MvI) : Prop where
  ft : fr ≤ tq
  neg : ∀ k, k < tq → 0 ≤ d k
  zer : ∀ k, k < fr → d k = 0
  sum : ∀ k, k ≤ n → 0 ≤ sumN d k
  tot : sumN d n = 0
  bnd : ∀ k, k < n → -4096 ≤ d k ∧ d k ≤ 4096
  cur : ∃ c, runM n p ml 0 = .inr c ∧ ∀ k, k < n → c (D.getD k 0) = atF (fallL q n) k + d k
  cnt : (nzN d n = 0 ∧ ml.length + 1 ≤ n) ∨ (2 ≤ nzN d n ∧ ml.length + nzN d n ≤ n)
theorem MvJ.start {n : Nat} {p q : Nat → Int} {D : List Nat} (h0 : 0 < n) (hm : D.map p = fallL p n) (hp : ∀ k, k < n → 0 ≤ p k ∧ p k ≤ 4096) (hq : ∀ k, k < n → 0 ≤ q k ∧ q k ≤ 4096) (hs : sumN p n = sumN q n) (hd : dipN (surF p q n) n = false) : MvJ n p q D 0 0 (surF p q n) [] := by
  have ht : sumN (surF p q n) n = 0 := by rw [sur_sum, fall_sum, fall_sum]; omega
  refine ⟨Nat.le_refl _, fun k hk => by omega, fun k hk => by omega, dipN_none hd, ht, fun k hk => ?_, ⟨p, rfl, fun k hk => ?_⟩, ?_⟩
  · have h1 := fall_right hp hk
    have h2 := fall_right hq hk
    unfold surF; omega
  · rw [fall_at hm hk]; unfold surF; omega
  · rcases Nat.eq_zero_or_pos (nzN (surF p q n) n) with h | h
    · exact Or.inl ⟨h, by simp; omega⟩
    · refine Or.inr ⟨?_, by simpa using nz_le _ _⟩
      rcases Nat.lt_or_ge 1 (nzN (surF p q n) n) with h2 | h2
      · omega
      · exact absurd ht (nz_one (by omega))
theorem MvJ.next {n : Nat} {p q : Nat → Int} {D : List Nat} {fr tq : Nat} {d : Nat → Int} {ml : List MvI} (h : MvJ n p q D fr tq d ml) (hd : ¬ d tq < 0) : MvJ n p q D fr (tq + 1) d ml :=
  ⟨by have := h.ft; omega, fun k hk => by
    rcases Nat.lt_or_ge k tq with h1 | h1
    · exact h.neg k h1
    · obtain rfl : k = tq := by omega
      omega, h.zer, h.sum, h.tot, h.bnd, h.cur, h.cnt⟩
theorem MvJ.lt {n : Nat} {p q : Nat → Int} {D : List Nat} {fr tq : Nat} {d : Nat → Int} {ml : List MvI} (h : MvJ n p q D fr tq d ml) (hto : tq < n) (hd : d tq < 0) : fr < tq := by
  rcases Nat.lt_or_ge fr tq with h1 | h1
  · exact h1
  · have e : fr = tq := by have := h.ft; omega
    have h2 := h.sum (tq + 1) hto
    have h3 : sumN d tq = 0 := sum_zeroO (fun k hk => h.zer k (by omega))
    simp only [sumN] at h2
    omega
theorem MvJ.skip {n : Nat} {p q : Nat → Int} {D : List Nat} {fr tq : Nat} {d : Nat → Int} {ml : List MvI} (h : MvJ n p q D fr tq d ml) (hto : tq < n) (hd : d tq < 0) (hf : d fr ≤ 0) : MvJ n p q D (fr + 1) tq d ml := by
  have hlt := h.lt hto hd
  refine ⟨hlt, h.neg, fun k hk => ?_, h.sum, h.tot, h.bnd, h.cur, h.cnt⟩
  rcases Nat.lt_or_ge k fr with h1 | h1
  · exact h.zer k h1
  · obtain rfl : k = fr := by omega
    have := h.neg k hlt
    omega
/-- The move that is made. -/
def mvM (D : List Nat) (fr tq : Nat) (s : Int) : MvI := ⟨(D.getD fr 0 : Nat), (D.getD tq 0 : Nat), s⟩
theorem MvJ.move {n : Nat} {p q : Nat → Int} {D : List Nat} {fr tq : Nat} {d : Nat → Int} {ml : List MvI} (h : MvJ n p q D fr tq d ml) (hD : D.Perm (List.range n)) (hto : tq < n) (hd : d tq < 0) (hf : 0 < d fr) (s : Int) (hs1 : s ≤ d fr) (hs2 : s ≤ - d tq) (hs3 : s = d fr ∨ s = - d tq) :
    MvJ n p q D fr tq (setF (setF d fr (d fr - s)) tq (d tq + s)) (ml ++ [mvM D fr tq s]) := by
  have hlt := h.lt hto hd
  have hs0 : 0 < s := by omega
  have ne : tq ≠ fr := by omega
  have hto' : setF d fr (d fr - s) tq = d tq := setF_other ne
  have vF : setF (setF d fr (d fr - s)) tq (d tq + s) fr = d fr - s := by rw [setF_other (by omega), setF_at]
  have vT : setF (setF d fr (d fr - s)) tq (d tq + s) tq = d tq + s := setF_at _ _ _
  have vO : ∀ k, k ≠ fr → k ≠ tq → setF (setF d fr (d fr - s)) tq (d tq + s) k = d k := fun k h1 h2 => by rw [setF_other h2, setF_other h1]
  have hsum : ∀ k, sumN (setF (setF d fr (d fr - s)) tq (d tq + s)) k = sumN d k + (if fr < k then - s else 0) + (if tq < k then s else 0) := fun k => by
    rw [sumN_set, sumN_set, hto']
    by_cases h1 : fr < k
    · rw [if_pos h1, if_pos h1]
      by_cases h2 : tq < k
      · rw [if_pos h2, if_pos h2]; omega
      · rw [if_neg h2, if_neg h2]; omega
    · rw [if_neg h1, if_neg h1, if_neg (by omega), if_neg (by omega)]
  have htot : sumN (setF (setF d fr (d fr - s)) tq (d tq + s)) n = 0 := by rw [hsum, if_pos (by omega), if_pos hto, h.tot]; omega
  have hneg : ∀ k, k < tq → 0 ≤ setF (setF d fr (d fr - s)) tq (d tq + s) k := fun k hk => by
    by_cases e : k = fr
    · rw [e, vF]; omega
    · rw [vO k e (by omega)]; exact h.neg k hk
  have hnz : nzN (setF (setF d fr (d fr - s)) tq (d tq + s)) n + 1 ≤ nzN d n := by
    have hm : ∀ k, k < n → setF (setF d fr (d fr - s)) tq (d tq + s) k ≠ 0 → d k ≠ 0 := fun k _ hk => by
      by_cases e1 : k = fr
      · rw [e1]; omega
      · by_cases e2 : k = tq
        · rw [e2]; omega
        · rw [vO k e1 e2] at hk; exact hk
    rcases hs3 with e | e
    · exact nz_lt hm (show fr < n by omega) (by omega) (by rw [vF]; omega)
    · exact nz_lt hm hto (by omega) (by rw [vT]; omega)
  refine ⟨h.ft, hneg, fun k hk => by rw [vO k (by omega) (by omega)]; exact h.zer k hk, fun k hk => ?_, htot, fun k hk => ?_, ?_, ?_⟩
  · rcases Nat.lt_or_ge tq k with h1 | h1
    · rw [hsum, if_pos (by omega), if_pos h1]
      have := h.sum k hk
      omega
    · exact sumN_nonneg (fun i hi => hneg i (by omega))
  · have b := h.bnd k hk
    have bf := h.bnd fr (by omega)
    have bt := h.bnd tq hto
    by_cases e1 : k = fr
    · rw [e1, vF]; omega
    · by_cases e2 : k = tq
      · rw [e2, vT]; omega
      · rw [vO k e1 e2]; exact b
  · obtain ⟨c, hr, hc⟩ := h.cur
    have hcf := hc fr (by omega)
    have hct := hc tq hto
    have hq := atF_down (fallL_down q n) (i := fr) (j := tq) (by omega) (by rw [fallL_length]; exact hto)
    have hne : D.getD tq 0 ≠ D.getD fr 0 := fun e => ne (perm_inj hD hto (by omega) e)
    have l1 := perm_lt' hD (show fr < n by omega)
    have l2 := perm_lt' hD hto
    have hb : mvB n c (mvM D fr tq s) = false := by
      exact mvB_of l1 l2 (fun e => hne e.symm) (by omega) (by rw [hcf, hct]; omega)
    refine ⟨_, run_snoc n _ ml p c 0 hr hb, fun k hk => ?_⟩
    simp only [mvS, mvM, Int.toNat_natCast]
    by_cases e2 : k = tq
    · subst e2
      rw [setF_at, vT, hct]; omega
    · have hne2 : D.getD k 0 ≠ D.getD tq 0 := fun e => e2 (perm_inj hD hk hto e)
      rw [setF_other hne2]
      by_cases e1 : k = fr
      · subst e1
        rw [setF_at, vF, hcf]; omega
      · have hne1 : D.getD k 0 ≠ D.getD fr 0 := fun e => e1 (perm_inj hD hk (by omega) e)
        rw [setF_other hne1, vO k e1 e2]
        exact hc k hk
  · rw [List.length_append]
    show (_ ∧ ml.length + 1 + 1 ≤ n) ∨ (_ ∧ ml.length + 1 + _ ≤ n)
    rcases h.cnt with ⟨h1, _⟩ | ⟨h1, h2⟩
    · omega
    · rcases Nat.eq_zero_or_pos (nzN (setF (setF d fr (d fr - s)) tq (d tq + s)) n) with h3 | h3
      · exact Or.inl ⟨h3, by omega⟩
      · refine Or.inr ⟨?_, by omega⟩
        rcases Nat.lt_or_ge 1 (nzN (setF (setF d fr (d fr - s)) tq (d tq + s)) n) with h4 | h4
        · omega
        · exact absurd htot (nz_one (by omega))
/-- What the moves are to be. -/
def MvOk (n : Nat) (p q : Nat → Int) (ml : List MvI) : Prop := ml.length + 1 ≤ n ∧ ∃ c, runM n p ml 0 = .inr c ∧ fallL c n = fallL q n
theorem MvJ.len {n : Nat} {p q : Nat → Int} {D : List Nat} {fr tq : Nat} {d : Nat → Int} {ml : List MvI} (h : MvJ n p q D fr tq d ml) : ml.length + 1 ≤ n := by
  rcases h.cnt with ⟨_, h1⟩ | ⟨h1, h2⟩ <;> omega
theorem sum_nonneg_zero {d : Nat → Int} : ∀ {n : Nat}, (∀ k, k < n → 0 ≤ d k) → sumN d n = 0 → ∀ k, k < n → d k = 0
  | 0, _, _, k, hk => by omega
  | n + 1, h, hs, k, hk => by
    have h1 := sumN_nonneg (z := d) (n := n) (fun i hi => h i (by omega))
    have h2 := h n (by omega)
    simp only [sumN] at hs
    rcases Nat.lt_or_ge k n with h3 | h3
    · exact sum_nonneg_zero (fun i hi => h i (by omega)) (by omega) k h3
    · obtain rfl : k = n := by omega
      omega
theorem MvJ.done {n : Nat} {p q : Nat → Int} {D : List Nat} {fr : Nat} {d : Nat → Int} {ml : List MvI} (h : MvJ n p q D fr n d ml) (hD : D.Perm (List.range n)) : MvOk n p q ml := by
  refine ⟨h.len, ?_⟩
  obtain ⟨c, hr, hc⟩ := h.cur
  refine ⟨c, hr, ?_⟩
  have hz := sum_nonneg_zero h.neg h.tot
  have hl : D.length = n := by rw [hD.length_eq, List.length_range]
  have hm : D.map c = fallL q n := by
    refine List.ext_getElem (by rw [List.length_map, fallL_length, hl]) (fun i h1 h2 => ?_)
    have hi : i < n := by rw [List.length_map] at h1; omega
    have := hc i hi
    rw [hz i hi] at this
    simp [List.getD, hl, hi, atF, fallL_length] at this
    simpa using this
  refine List.Perm.eq_of_pairwise (le := fun a b => b ≤ a) (fun a b _ _ h1 h2 => by omega) (fallL_down c n) (fallL_down q n) ?_
  rw [← hm]
  exact (fallL_perm c n).trans (hD.map c).symm
end Go.Proofs.YtgaamcmjonngjaaDoor

/- SCHUR: what a move leaves is majorized, and the product of all numbers to their own powers is no greater. -/
namespace Go.Proofs.YtgaamcmjonngjaaDoor

/-- A number to its own power. -/
def selfP (x : Nat) : Nat := x ^ x
theorem selfP_pos (x : Nat) : 0 < selfP x := by
  unfold selfP
  rcases Nat.eq_zero_or_pos x with e | e
  · rw [e]; decide
  · exact Nat.pow_pos e
def cvxAll : Nat → Bool
  | 0 => true
  | n + 1 => Nat.ble (selfP (n + 1) * selfP (n + 1)) (selfP (n + 2) * selfP n) && cvxAll n
theorem cvxAll_at : ∀ {n k : Nat}, cvxAll n = true → k < n → selfP (k + 1) * selfP (k + 1) ≤ selfP (k + 2) * selfP k
  | n + 1, k, hn, h => by
    rw [cvxAll, Bool.and_eq_true] at hn
    rcases Nat.lt_or_ge k n with h1 | h1
    · exact cvxAll_at hn.2 h1
    · obtain rfl : k = n := by omega
      exact Nat.le_of_ble_eq_true hn.1
theorem cvx_table : cvxAll 4096 = true := by decide +kernel
/-- A unit from the greater one to the lesser one. -/
theorem unit_le {b : Nat} : ∀ a, b + 1 ≤ a → a ≤ 4097 → selfP (a - 1) * selfP (b + 1) ≤ selfP a * selfP b := by
  intro a
  induction a with
  | zero => intro h; omega
  | succ a ih =>
    intro h1 h2
    rcases Nat.eq_or_lt_of_le h1 with e | h3
    · obtain rfl : b = a := by omega
      rw [Nat.add_sub_cancel, Nat.mul_comm]
      exact Nat.le_refl _
    · have h4 := ih (by omega) (by omega)
      obtain ⟨c, rfl⟩ : ∃ c, a = c + 1 := ⟨a - 1, by omega⟩
      have h5 := cvxAll_at (n := 4096) (k := c) cvx_table (by omega)
      rw [Nat.add_sub_cancel] at h4 ⊢
      -- selfP c * selfP (b+1) <= selfP (c+1) * selfP b; selfP (c+1)^2 <= selfP (c+2) * selfP c
      have p0 := selfP_pos c
      have p1 := selfP_pos (c + 1)
      have h6 : (selfP c * selfP (c + 1)) * (selfP (c + 1) * selfP (b + 1)) ≤ (selfP c * selfP (c + 1)) * (selfP (c + 1 + 1) * selfP b) := by
        have h7 := Nat.mul_le_mul h4 h5
        have e1 : (selfP c * selfP (c + 1)) * (selfP (c + 1) * selfP (b + 1)) = selfP c * selfP (b + 1) * (selfP (c + 1) * selfP (c + 1)) := by simp only [Nat.mul_assoc, Nat.mul_left_comm, Nat.mul_comm]
        have e2 : (selfP c * selfP (c + 1)) * (selfP (c + 1 + 1) * selfP b) = selfP (c + 1) * selfP b * (selfP (c + 2) * selfP c) := by simp only [Nat.mul_assoc, Nat.mul_left_comm, Nat.mul_comm]
        rw [e1, e2]; exact h7
      exact Nat.le_of_mul_le_mul_left h6 (Nat.mul_pos p0 p1)
theorem half_le (a b : Nat) (ha : a ≤ 4097) : ∀ s, b + 2 * s ≤ a → selfP (a - s) * selfP (b + s) ≤ selfP a * selfP b
  | 0, _ => Nat.le_refl _
  | s + 1, h => by
    have h1 := half_le a b ha s (by omega)
    have h2 := unit_le (b := b + s) (a - s) (by omega) (by omega)
    rw [show a - s - 1 = a - (s + 1) by omega, show b + s + 1 = b + (s + 1) by omega] at h2
    exact Nat.le_trans h2 h1
/-- As much as one likes, up to the distance. -/
theorem schur_le {a b s : Nat} (ha : a ≤ 4097) (h : b + s ≤ a) : selfP (a - s) * selfP (b + s) ≤ selfP a * selfP b := by
  rcases Nat.lt_or_ge (a - b) (2 * s) with h1 | h1
  · have h2 := half_le a b ha (a - b - s) (by omega)
    rw [show a - (a - b - s) = b + s by omega, show b + (a - b - s) = a - s by omega, Nat.mul_comm] at h2
    exact h2
  · exact half_le a b ha s (by omega)
def prdO (z : Nat → Int) : Nat → Nat
  | 0 => 1
  | m + 1 => prdO z m * selfP (z m).toNat
theorem prdO_pos (z : Nat → Int) : ∀ m, 0 < prdO z m
  | 0 => Nat.one_pos
  | m + 1 => Nat.mul_pos (prdO_pos z m) (selfP_pos _)
theorem prdO_set (z : Nat → Int) (i : Nat) (x : Int) : ∀ m, i < m → prdO (setF z i x) m * selfP (z i).toNat = prdO z m * selfP x.toNat
  | 0, h => by omega
  | m + 1, h => by
    have e : ∀ k, k ≤ i → prdO (setF z i x) k = prdO z k := fun k => by
      induction k with
      | zero => intro _; rfl
      | succ k ih => intro hk; rw [prdO, prdO, ih (by omega), setF_other (by omega)]
    rw [prdO, prdO]
    rcases Nat.lt_or_ge i m with h1 | h1
    · have ih := prdO_set z i x m h1
      rw [setF_other (show m ≠ i by omega), Nat.mul_right_comm, ih, Nat.mul_right_comm]
    · obtain rfl : i = m := by omega
      rw [setF_at, e i (Nat.le_refl _), Nat.mul_right_comm]
theorem move_prd {n : Nat} {z : Nat → Int} {m : MvI} (hb : mvB n z m = false) (hz : ∀ k, k < n → 0 ≤ z k ∧ z k ≤ 4096) : prdO (mvS z m) n ≤ prdO z n := by
  obtain ⟨h1, h2, h3, h4, h5, h6, h7⟩ := mvB_no hb
  obtain ⟨f, t, s⟩ := m
  simp only at h1 h2 h3 h4 h5 h6 h7
  obtain ⟨i, rfl⟩ : ∃ i : Nat, f = (i : Int) := ⟨f.toNat, by omega⟩
  obtain ⟨j, rfl⟩ : ∃ j : Nat, t = (j : Int) := ⟨t.toNat, by omega⟩
  simp only [Int.toNat_natCast] at h7
  have hij : j ≠ i := by omega
  have a := hz i (by omega)
  have b := hz j (by omega)
  show prdO (setF (setF z i (z i - s)) j (z j + s)) n ≤ _
  have e1 := prdO_set z i (z i - s) n (by omega)
  have e2 := prdO_set (setF z i (z i - s)) j (z j + s) n (by omega)
  rw [setF_other hij] at e2
  have hs := schur_le (a := (z i).toNat) (b := (z j).toNat) (s := s.toNat) (by omega) (by omega)
  rw [show (z i).toNat - s.toNat = (z i - s).toNat by omega, show (z j).toNat + s.toNat = (z j + s).toNat by omega] at hs
  have p := Nat.mul_pos (selfP_pos (z i).toNat) (selfP_pos (z j).toNat)
  refine Nat.le_of_mul_le_mul_left (c := selfP (z i).toNat * selfP (z j).toNat) ?_ p
  have e3 : selfP (z i).toNat * selfP (z j).toNat * prdO (setF (setF z i (z i - s)) j (z j + s)) n = prdO z n * (selfP (z i - s).toNat * selfP (z j + s).toNat) := by
    have : selfP (z i).toNat * selfP (z j).toNat * prdO (setF (setF z i (z i - s)) j (z j + s)) n = selfP (z i).toNat * (prdO (setF (setF z i (z i - s)) j (z j + s)) n * selfP (z j).toNat) := by simp only [Nat.mul_assoc, Nat.mul_comm]
    rw [this, e2]
    have : selfP (z i).toNat * (prdO (setF z i (z i - s)) n * selfP (z j + s).toNat) = (prdO (setF z i (z i - s)) n * selfP (z i).toNat) * selfP (z j + s).toNat := by simp only [Nat.mul_left_comm, Nat.mul_comm]
    rw [this, e1, Nat.mul_assoc]
  rw [e3, Nat.mul_comm (selfP (z i).toNat * selfP (z j).toNat)]
  exact Nat.mul_le_mul_left _ hs

/-- A table whose rows and columns have one sum, of whatever size. -/
theorem spread_topG {R : Nat} {zs : Nat → Nat → Int} {w : Nat → Int} {S : Int} (hnum : ∀ i, i < R → ∀ c, c < R → 0 ≤ zs i c) (hrow : ∀ i, i < R → sumN (zs i) R = S) (hcol : ∀ c, c < R → sumN (fun r => zs r c) R = S) {k : Nat} (hk : k ≤ R) : sumN (atF (fallL (sprF R zs w) R)) k ≤ S * sumN (atF (fallL w R)) k := by
  obtain ⟨D, hD, hDm⟩ := fall_places (sprF R zs w) R
  obtain ⟨E, hE, hEm⟩ := fall_places w R
  have e1 : sumN (atF (fallL (sprF R zs w) R)) k = sumN (fun j => sumN (fun c => zs (D.getD j 0) c * w c) R) k := sumN_congr fun j hj => by
    rw [← fall_at hDm (show j < R by omega)]; rfl
  have e2 := sumN_swap (fun j c => zs (D.getD j 0) c * w c) R k
  have e3 : sumN (fun c => sumN (fun j => zs (D.getD j 0) c * w c) k) R = sumN (fun c => sumN (fun j => zs (D.getD j 0) c) k * w c) R := sumN_congr fun c _ => sumN_mulr _ _ _
  have e4 := sum_perm hE (fun c => sumN (fun j => zs (D.getD j 0) c) k * w c)
  have e5 : sumN (fun j => sumN (fun i => zs (D.getD i 0) (E.getD j 0)) k * w (E.getD j 0)) R = sumN (fun j => sumN (fun i => zs (D.getD i 0) (E.getD j 0)) k * atF (fallL w R) j) R := sumN_congr fun j hj => by rw [fall_at hEm hj]
  have hx : ∀ j, j < R → 0 ≤ sumN (fun i => zs (D.getD i 0) (E.getD j 0)) k ∧ sumN (fun i => zs (D.getD i 0) (E.getD j 0)) k ≤ S := fun j hj => by
    have hc := perm_lt hE hj
    have hp : ∀ i, i < R → 0 ≤ zs (D.getD i 0) (E.getD j 0) := fun i hi => hnum _ (perm_lt hD hi) _ hc
    refine ⟨sumN_nonneg fun i hi => hp i (by omega), ?_⟩
    have h1 := sumN_mono (z := fun i => zs (D.getD i 0) (E.getD j 0)) (k := k) (n := R) hp hk
    have h2 := sum_perm hD (fun r => zs r (E.getD j 0))
    have h3 := hcol _ hc
    omega
  have hs : sumN (fun j => sumN (fun i => zs (D.getD i 0) (E.getD j 0)) k) R = (k : Int) * S := by
    rw [sum_perm hE (fun c => sumN (fun i => zs (D.getD i 0) c) k), ← sumN_swap (fun i c => zs (D.getD i 0) c) R k, sumN_congr (z' := fun _ => S) (fun i hi => ?_), sumN_const]
    exact hrow _ (perm_lt hD (show i < R by omega))
  have hfin := part_le hk hx (fun i j hij hj => atF_down (fallL_down w R) hij (by rw [fallL_length]; exact hj)) hs
  rw [e1, e2, e3, ← e4, e5]
  exact hfin
theorem fallL_congr {z z' : Nat → Int} : ∀ {n : Nat}, (∀ i, i < n → z i = z' i) → fallL z n = fallL z' n
  | 0, _ => rfl
  | n + 1, h => by rw [fallL, fallL, fallL_congr (fun i hi => h i (by omega)), h n (by omega)]
theorem sumN_setm (g w : Nat → Int) (i : Nat) (x : Int) : ∀ n, sumN (fun c => setF g i x c * w c) n = sumN (fun c => g c * w c) n + if i < n then (x - g i) * w i else 0
  | 0 => by simp [sumN]
  | n + 1 => by
    show sumN (fun c => setF g i x c * w c) n + setF g i x n * w n = (sumN (fun c => g c * w c) n + g n * w n) + _
    rw [sumN_setm g w i x n]
    unfold setF
    by_cases h : n = i
    · subst h
      rw [if_pos rfl, if_neg (by omega), if_pos (by omega), Int.sub_mul]; omega
    · rw [if_neg h]
      by_cases h2 : i < n
      · rw [if_pos h2, if_pos (by omega)]; omega
      · rw [if_neg h2, if_neg (by omega)]; omega
theorem setF_nonneg {z : Nat → Int} {i : Nat} {x : Int} (hz : ∀ c, 0 ≤ z c) (hx : 0 ≤ x) (c : Nat) : 0 ≤ setF z i x c := by
  unfold setF
  split
  · exact hx
  · exact hz c
/-- The table of a move. -/
def mvT (i j : Nat) (D s : Int) (r : Nat) : Nat → Int :=
  if r = i then setF (setF (fun _ => 0) i (D - s)) j s else if r = j then setF (setF (fun _ => 0) j (D - s)) i s else setF (fun _ => 0) r D
theorem mvT_sym {i j : Nat} (hij : j ≠ i) (D s : Int) (r c : Nat) : mvT i j D s r c = mvT i j D s c r := by
  unfold mvT setF
  by_cases h1 : r = i <;> by_cases h2 : r = j <;> by_cases h3 : c = i <;> by_cases h4 : c = j <;> simp_all <;> (try omega)
  all_goals (split <;> split <;> simp_all)
theorem move_below {n : Nat} {z : Nat → Int} {m : MvI} (hb : mvB n z m = false) {k : Nat} (hk : k ≤ n) : sumN (atF (fallL (mvS z m) n)) k ≤ sumN (atF (fallL z n)) k := by
  obtain ⟨h1, h2, h3, h4, h5, h6, h7⟩ := mvB_no hb
  obtain ⟨f, t, s⟩ := m
  simp only at h1 h2 h3 h4 h5 h6 h7
  obtain ⟨i, rfl⟩ : ∃ i : Nat, f = (i : Int) := ⟨f.toNat, by omega⟩
  obtain ⟨j, rfl⟩ : ∃ j : Nat, t = (j : Int) := ⟨t.toNat, by omega⟩
  simp only [Int.toNat_natCast] at h7
  have hi : i < n := by omega
  have hj : j < n := by omega
  have hij : j ≠ i := by omega
  show sumN (atF (fallL (setF (setF z i (z i - s)) j (z j + s)) n)) k ≤ _
  obtain ⟨D, hD⟩ : ∃ D, D = z i - z j := ⟨_, rfl⟩
  rcases (show 0 < D ∨ D ≤ 0 by omega) with hpos | hpos
  · have z0 : ∀ (r : Nat) (x : Int), sumN (setF (fun _ => 0) r x) n = if r < n then x else 0 := fun r x => by
      rw [sumN_set, sumN_const]; simp
    have hrow : ∀ r, r < n → sumN (mvT i j D s r) n = D := fun r hr => by
      unfold mvT
      by_cases e1 : r = i
      · rw [if_pos e1, sumN_set, sumN_set, sumN_const, setF_other hij, if_pos hi, if_pos hj]; omega
      · rw [if_neg e1]
        by_cases e2 : r = j
        · rw [if_pos e2, sumN_set, sumN_set, sumN_const, setF_other (show i ≠ j by omega), if_pos hi, if_pos hj]; omega
        · rw [if_neg e2, z0, if_pos hr]
    have hcol : ∀ c, c < n → sumN (fun r => mvT i j D s r c) n = D := fun c hc => by
      exact (sumN_congr fun r _ => mvT_sym hij D s r c).trans (hrow c hc)
    have hnum : ∀ r, r < n → ∀ c, c < n → 0 ≤ mvT i j D s r c := fun r _ c _ => by
      unfold mvT
      split
      · exact setF_nonneg (fun c => setF_nonneg (fun _ => Int.le_refl _) (by omega) c) h6 c
      · split
        · exact setF_nonneg (fun c => setF_nonneg (fun _ => Int.le_refl _) (by omega) c) h6 c
        · exact setF_nonneg (fun _ => Int.le_refl _) (by omega) c
    have hspr : ∀ r, r < n → sprF n (mvT i j D s) z r = setF (setF z i (z i - s)) j (z j + s) r * D := fun r hr => by
      unfold sprF mvT
      by_cases e1 : r = i
      · subst e1
        rw [if_pos rfl, sumN_setm, sumN_setm, setF_other hij, if_pos hi, if_pos hj, setF_other (show r ≠ j by omega), setF_at]
        have e0 : sumN (fun c => (0 : Int) * z c) n = 0 := by rw [sumN_congr (z' := fun _ => 0) (fun _ _ => by simp), sumN_const]; simp
        rw [e0, hD]
        grind
      · rw [if_neg e1]
        by_cases e2 : r = j
        · subst e2
          rw [if_pos rfl, sumN_setm, sumN_setm, setF_other (show i ≠ r by omega), if_pos hi, if_pos hj, setF_at]
          have e0 : sumN (fun c => (0 : Int) * z c) n = 0 := by rw [sumN_congr (z' := fun _ => 0) (fun _ _ => by simp), sumN_const]; simp
          rw [e0, hD]
          grind
        · rw [if_neg e2, sumN_setm, if_pos hr, setF_other e2, setF_other e1]
          have e0 : sumN (fun c => (0 : Int) * z c) n = 0 := by rw [sumN_congr (z' := fun _ => 0) (fun _ _ => by simp), sumN_const]; simp
          rw [e0]
          grind
    have hm := spread_topG (w := z) hnum hrow hcol hk
    rw [fallL_congr hspr] at hm
    have hsc : sumN (atF (fallL (fun r => setF (setF z i (z i - s)) j (z j + s) r * D) n)) k = sumN (atF (fallL (setF (setF z i (z i - s)) j (z j + s)) n)) k * D := by
      rw [sumN_congr (z' := fun c => atF (fallL (setF (setF z i (z i - s)) j (z j + s)) n) c * D) (fun c hc => fall_scale (by omega) _ n (by omega)), sumN_mulr]
    rw [hsc, Int.mul_comm] at hm
    exact Int.le_of_mul_le_mul_left hm hpos
  · have hs0 : s = 0 := by omega
    subst hs0
    rw [fallL_congr (z' := z) (fun r _ => by
      unfold setF
      by_cases e2 : r = j
      · rw [if_pos e2, e2]; omega
      · rw [if_neg e2]
        by_cases e1 : r = i
        · rw [if_pos e1, e1]; omega
        · rw [if_neg e1])]
    exact Int.le_refl _
theorem move_sum {n : Nat} {z : Nat → Int} {m : MvI} (hb : mvB n z m = false) : sumN (mvS z m) n = sumN z n := by
  obtain ⟨h1, h2, h3, h4, h5, h6, h7⟩ := mvB_no hb
  obtain ⟨f, t, s⟩ := m
  simp only at h1 h2 h3 h4 h5 h6 h7
  obtain ⟨i, rfl⟩ : ∃ i : Nat, f = (i : Int) := ⟨f.toNat, by omega⟩
  obtain ⟨j, rfl⟩ : ∃ j : Nat, t = (j : Int) := ⟨t.toNat, by omega⟩
  show sumN (setF (setF z i (z i - s)) j (z j + s)) n = _
  rw [sumN_set, sumN_set, setF_other (show j ≠ i by omega), if_pos (by omega), if_pos (by omega)]; omega
/-- What moves leave. -/
theorem moves_below {n : Nat} : ∀ {l : List MvI} {z f : Nat → Int} {k : Nat}, (∀ i, i < n → 0 ≤ z i ∧ z i ≤ 4096) → runM n z l k = .inr f →
    (∀ i, i < n → 0 ≤ f i ∧ f i ≤ 4096) ∧ sumN f n = sumN z n ∧ prdO f n ≤ prdO z n ∧ ∀ c, c ≤ n → sumN (atF (fallL f n)) c ≤ sumN (atF (fallL z n)) c
  | [], z, f, k, hz, h => by
    obtain rfl : z = f := by simpa [runM] using h
    exact ⟨hz, rfl, Nat.le_refl _, fun c _ => Int.le_refl _⟩
  | m :: l, z, f, k, hz, h => by
    have h1 : (if mvB n z m = true then Sum.inl k else runM n (mvS z m) l (k + 1)) = .inr f := h
    cases hb : mvB n z m with
    | true => rw [hb, if_pos rfl] at h1; cases h1
    | false =>
      rw [hb, if_neg (by decide)] at h1
      obtain ⟨a1, a2, a3, a4⟩ := moves_below (mvS_right hb hz) h1
      exact ⟨a1, by rw [a2, move_sum hb], Nat.le_trans a3 (move_prd hb hz), fun c hc => Int.le_trans (a4 c hc) (move_below hb hc)⟩
end Go.Proofs.YtgaamcmjonngjaaDoor

/- Entropies as logarithms; the law's less. -/
namespace Go.Proofs.YtgaamcmjonngjaaDoor
open Go.RowKit

/-- It speaks of primes alone. -/
def SuppO (f : Int → Int) : Prop := ∀ x, f x ≠ 0 → 2 ≤ x ∧ x ≤ 4096 ∧ Pr x.toNat
theorem supp_termO (c : Int) (m : Nat) (h : c ≠ 0 → 0 < m ∧ m ≤ 4096) : SuppO fun x => c * multI x m := fun x hx => by
  dsimp only at hx
  have h1 : c ≠ 0 := fun e => hx (by rw [e]; simp)
  have h2 : multI x m ≠ 0 := fun e => hx (by rw [e]; simp)
  obtain ⟨a1, a2, a3⟩ := multI_support (h h1).1 h2
  have := (h h1).2
  exact ⟨a2, by omega, a1⟩
theorem SuppO.add {f g : Int → Int} (hf : SuppO f) (hg : SuppO g) : SuppO fun x => f x + g x := fun x hx => by
  by_cases h : f x = 0
  · exact hg x (fun e => hx (by dsimp only; rw [h, e]; rfl))
  · exact hf x h
theorem SuppO.sub {f g : Int → Int} (hf : SuppO f) (hg : SuppO g) : SuppO fun x => f x - g x := fun x hx => by
  by_cases h : f x = 0
  · exact hg x (fun e => hx (by dsimp only; rw [h, e]; rfl))
  · exact hf x h
theorem supp_sumO {F : Nat → Int → Int} : ∀ {n : Nat}, (∀ i, i < n → SuppO (F i)) → SuppO fun x => sumN (fun i => F i x) n
  | 0, _ => fun x hx => absurd rfl hx
  | n + 1, h => (supp_sumO fun i hi => h i (by omega)).add (h n (by omega))
theorem ent_primO {z : Nat → Int} {n N : Nat} (h : OkW z n) (hn : n ≤ 256) (hN : 1 ≤ N ∧ N ≤ 4096) : Prim fun x => sumN (entV z N x) n := by
  refine ⟨fun x => ent_bound (fun i hi => h.lt hi) hN.2 hn x, ?_⟩
  refine supp_sumO (F := fun i x => entV z N x i) fun i hi => ?_
  have hc := h.lt hi
  exact (supp_termO _ N (fun _ => hN)).sub (supp_termO _ _ (fun h0 => by omega))
theorem mult_selfP {q : Nat} (hq : Pr q) (x : Nat) : mult q (selfP x) = x * mult q x := by
  unfold selfP
  rcases Nat.eq_zero_or_pos x with e | e
  · rw [e, Nat.zero_mul]; exact mult_one hq.1
  · exact mult_power hq e _
theorem ent_prd {z : Nat → Int} {S q : Nat} (hq : Pr q) : ∀ {n : Nat}, (∀ i, i < n → 0 ≤ z i) → sumN (entV z S (q : Int)) n = sumN z n * (mult q S : Int) - (mult q (prdO z n) : Int)
  | 0, _ => by simp [sumN, prdO, mult_one hq.1]
  | n + 1, h => by
    have hm : ∀ m, multI (q : Int) m = (mult q m : Int) := fun m => by rw [multI_pr (by simpa using hq)]; simp
    have h0 := h n (by omega)
    have e : z n = ((z n).toNat : Int) := by omega
    rw [sumN, ent_prd hq (fun i hi => h i (by omega)), sumN, prdO, mult_mul hq _ _ (prdO_pos z n) (selfP_pos _), mult_selfP hq, entV, hm, hm, Int.natCast_add, Int.natCast_mul, ← e]
    grind
theorem Entropy_lvO (a : Nat → Addr) (v : Value) (n S : Nat) (z : Nat → Int) (w : World) (hE : Errs w a) (h : NumsAt w v n z) (h0 : weightsErr z n = 0) (hS : sumN z n = (S : Int)) :
    Calls Tryd.prog 14 #[v] w fun e w' => ∃ dn u, e = .returned (.tuple #[.agg #[.int .i64 dn, u], .nilIface]) ∧ LV w' S (fun x => sumN (entV z S x) n) 4096 dn u ∧ Below w.heap.size w w' := by
  obtain ⟨h16, hok⟩ := weightsErr_ok h0
  have hp := hok.pos
  have hl := hok.le
  have hS0 : 1 ≤ S := by omega
  have hS4 : S ≤ 4096 := by omega
  rcases h with ⟨_, _, _, h1⟩ | ⟨b, o, c, rfl, _, hr⟩
  · have := hok.posN; omega
  refine (Entropy_ok a b o c n S z w hE hr h0 hS (fun i hi => (hok.lt hi).1) h16 hS0 hS4 hok.posN).mono ?_
  rintro e w' ⟨dn, u, rfl, hu, hb'⟩
  exact ⟨dn, u, rfl, hu.lv hS0 (by omega) (ent_primO hok (by omega) ⟨hS0, hS4⟩), hb'⟩

set_option maxRecDepth 100000 in
set_option maxHeartbeats 8000000 in
theorem less_any {M L : Nat} {F G : Int → Int} {d1 d2 : Int} {v1 v2 : Value} {U D : Nat} (a : Nat → Addr) (w : World) (hE : Errs w a) (h1 : LV w M F L d1 v1) (h2 : LV w M G L d2 v2) (hL : L ≤ 4500) (hM : 1 ≤ M) (hU : 0 < U) (hD : 0 < D) (hUD : D ≤ U) (hm : ∀ q : Nat, Pr q → G (q : Int) + -F (q : Int) = (mult q U : Int) - (mult q D : Int)) :
    Calls Tryd.prog 15 #[.agg #[.int .i64 d1, v1], .agg #[.int .i64 d2, v2]] w fun e w' => e = .returned (.bool true) ∧ Below w.heap.size w w' := by
  obtain ⟨va, vn, vc, rfl⟩ := h1.form
  obtain ⟨ua, un, uc, rfl⟩ := h2.form
  obtain ⟨W0, hW0⟩ : ∃ W0, W0 = (w.alloc (.cells #[.int .i64 d1, .slice va vn vc] 36)).alloc (.cells #[.int .i64 d2, .slice ua un uc] 36) := ⟨_, rfl⟩
  have hb0 : Below w.heap.size w W0 := by rw [hW0]; exact ((Below.refl _ _).alloc (Nat.le_refl _) _).alloc (by simp) _
  have HC0 : Hid (∀ W, Below W0.heap.size W0 W → (W.cell? ⟨w.heap.size, 0, none⟩ = some (.int .i64 d1) ∧ W.cell? ⟨w.heap.size, 1, none⟩ = some (.slice va vn vc)) ∧ W.cell? ⟨w.heap.size + 1, 0, none⟩ = some (.int .i64 d2) ∧ W.cell? ⟨w.heap.size + 1, 1, none⟩ = some (.slice ua un uc)) := fun W hb => by
    have hr := hb
    rw [hW0] at hr
    have r2 := res_past hr
    rw [World.size_alloc] at r2
    have r1 := res_past (w := w) (below_chain (new_below _ _) hr)
    exact ⟨⟨r1.1, r1.2.1⟩, r2.1, r2.2.1⟩
  have HEND : Hid (∀ W, Below W0.heap.size W0 W → Below w.heap.size w W) := fun W hb => hb0.trans (hb.mono hb0.size)
  have HS2 := Hid.mk' (Scale_back_lv a W0 (hE.below hb0) (h1.later hb0) (by omega))
  have HAD : Hid (∀ (W : World) (e1 : Int) (u1 : Value), Below W0.heap.size W0 W → LV W M (fun x => -F x) L e1 u1 → Calls Tryd.prog 48 #[.agg #[.int .i64 d2, .slice ua un uc], .agg #[.int .i64 e1, u1]] W fun e w' => ((∃ dn v, e = .returned (.tuple #[.agg #[.int .i64 dn, v], .nilIface]) ∧ LV w' M (fun x => G x + -F x) (L + L) dn v) ∨ ∃ ad, e = .returned (.tuple #[.agg #[.int .i64 0, .slice none 0 0], .iface 227 (.pointer (some ad))])) ∧ Below W.heap.size W w') := fun W e1 u1 hb k1 => Add_lv a W (hE.below (HEND.out W hb)) (h2.later (HEND.out W hb)) k1 (by omega)
  have HSG : Hid (∀ (W : World) (e1 : Int) (u1 : Value), Below W0.heap.size W0 W → LV W M (fun x => G x + -F x) (L + L) e1 u1 → Calls Tryd.prog 49 #[.agg #[.int .i64 e1, u1]] W fun e w' => ((∃ z, e = .returned (.tuple #[.int .i64 z, .nilIface]) ∧ 0 ≤ z) ∨ ∃ ad, e = .returned (.tuple #[.int .i64 0, .iface 227 (.pointer (some ad))])) ∧ Below W.heap.size W w') := fun W e1 u1 hb k1 => by
    refine (Sign_lv1 a W (hE.below (HEND.out W hb)) k1 (by omega) hM hU hD hm).mono ?_
    rintro e w' ⟨⟨z, rfl, hz⟩ | h, hb'⟩
    · refine ⟨Or.inl ⟨z, rfl, ?_⟩, hb'⟩
      obtain ⟨z1, z2, _⟩ := hz
      rcases Nat.lt_or_ge D U with h9 | h9
      · rw [z1 h9]; omega
      · rw [z2 (by omega)]; omega
    · exact ⟨Or.inr h, hb'⟩
  have HW0 := Hid.mk' hW0
  obtain ⟨⟨j0, j1⟩, _, _⟩ := HC0.out W0 (Below.refl _ _)
  clear hE h1 h2 hb0 hW0 hm hU hD hUD
  go_enter Tryd.func15, Tryd.ntmps15
  go_upto_region 1 with fail
  rw [← HW0.out]
  go_wp2_with fail
  refine HS2.out.mono ?_
  rintro e w2 ⟨dn, v, rfl, hv, hb2⟩
  obtain ⟨v5, n5, c5, rfl⟩ := hv.form
  have hb3 : Below w2.heap.size w2 (w2.alloc (.cells #[.int .i64 dn, .slice v5 n5 c5] 36)) := new_below _ _
  have HL5 := Hid.mk' (fun (W : World) hb => res_past (x := .int .i64 dn) (y := .slice v5 n5 c5) (w := w2) (t := 36) (w1 := W) hb)
  have HB3 := Hid.mk' (below_chain hb2 hb3)
  have HV3 := Hid.mk' (hv.later hb3)
  obtain ⟨_, k2, k3⟩ := HC0.out _ HB3.out
  obtain ⟨p0, p1, p2, p3⟩ := HL5.out _ (Below.refl _ _)
  have HA3 := Hid.mk' (HAD.out _ _ _ HB3.out HV3.out)
  have hle : W0.heap.size ≤ w2.heap.size := hb2.size
  obtain ⟨w3, hw3⟩ : ∃ w3, w3 = w2.alloc (.cells #[.int .i64 dn, .slice v5 n5 c5] 36) := ⟨_, rfl⟩
  obtain ⟨B5, hB5⟩ : ∃ B5, B5 = w2.heap.size := ⟨_, rfl⟩
  rw [← hw3] at HB3 HV3 HA3 HL5 k2 k3 p0 p1 p2 p3
  rw [← hB5] at HL5 p0 p1 p2 p3 hle
  have HLE := Hid.mk' hle
  clear hv hb3 hb2 HS2 j0 j1 hle
  go_upto_region 4 with fail
  rw [← hw3, ← hB5]
  clear hw3 hB5
  go_wp2_with fail
  refine HA3.out.mono ?_
  rintro e w6 ⟨hor, hb6⟩
  have HB6 := Hid.mk' (below_chain HB3.out hb6)
  have g0 : w6.cell? ⟨B5, 0, none⟩ = some (.int .i64 dn) := by rw [hb6.cell (cell_lt p0)]; exact p0
  have g1 : w6.cell? ⟨B5, 1, none⟩ = some (.slice v5 n5 c5) := by rw [hb6.cell (cell_lt p1)]; exact p1
  have g2 : w6.frozen? ⟨B5, 0, none⟩ = false := by rw [hb6.frozen (show B5 < w3.heap.size from cell_lt p0)]; exact p2
  have g3 : w6.frozen? ⟨B5, 1, none⟩ = false := by rw [hb6.frozen (show B5 < w3.heap.size from cell_lt p0)]; exact p3
  clear hb6 HA3 p0 p1 p2 p3 k2 k3 HL5
  have HST : Hid (∀ (x y : Value), Below W0.heap.size W0 ((w6.setCell ⟨B5, 0, none⟩ x).setCell ⟨B5, 1, none⟩ y)) := fun x y => (HB6.out.setCell HLE.out _).setCell HLE.out _
  rcases hor with ⟨dn6, v6, rfl, hv6⟩ | ⟨ad, rfl⟩
  · obtain ⟨v8, n8, c8, rfl⟩ := hv6.form
    have hv7 : LV ((w6.setCell ⟨B5, 0, none⟩ (.int .i64 dn6)).setCell ⟨B5, 1, none⟩ (.slice v8 n8 c8)) M (fun x => G x + -F x) (L + L) dn6 (.slice v8 n8 c8) := by
      obtain ⟨d, t, q1, q2, q3⟩ := hv6
      exact ⟨d, t, q1, own_set q2 g1, q3⟩
    have HG7 := Hid.mk' (HSG.out _ _ _ (HST.out (.int .i64 dn6) (.slice v8 n8 c8)) hv7)
    have HB7 := Hid.mk' (HST.out (.int .i64 dn6) (.slice v8 n8 c8))
    have p0 : ((w6.setCell ⟨B5, 0, none⟩ (.int .i64 dn6)).setCell ⟨B5, 1, none⟩ (.slice v8 n8 c8)).cell? ⟨B5, 0, none⟩ = some (.int .i64 dn6) := by
      rw [World.cell?_setCell_other _ _ _ _ (by simp)]; exact World.cell?_setCell_same _ _ _ g0
    have p1 : ((w6.setCell ⟨B5, 0, none⟩ (.int .i64 dn6)).setCell ⟨B5, 1, none⟩ (.slice v8 n8 c8)).cell? ⟨B5, 1, none⟩ = some (.slice v8 n8 c8) :=
      World.cell?_setCell_same _ _ _ (by rw [World.cell?_setCell_other _ _ _ _ (by simp)]; exact g1)
    obtain ⟨w7, hw7⟩ : ∃ w7, w7 = (w6.setCell ⟨B5, 0, none⟩ (.int .i64 dn6)).setCell ⟨B5, 1, none⟩ (.slice v8 n8 c8) := ⟨_, rfl⟩
    rw [← hw7] at HG7 HB7 p0 p1
    clear hv6 hv7
    go_upto_region 7 with fail
    rw [← hw7]
    clear hw7 g0 g1 g2 g3
    go_wp2_with fail
    refine HG7.out.mono ?_
    rintro e w8 ⟨hor, hb8⟩
    have HB8 := Hid.mk' (HEND.out _ (below_chain HB7.out hb8))
    clear hb8 HG7 p0 p1
    rcases hor with ⟨zz, rfl, hz⟩ | ⟨ad, rfl⟩
    · have hzd : decide (0 ≤ zz) = true := decide_eq_true hz
      go_wp2_with fail
      go_ret
      exact ⟨rfl, HB8.out⟩
    · go_wp2_with fail
      go_ret
      exact ⟨rfl, HB8.out⟩
  · have HBE := Hid.mk' (HEND.out _ (HST.out (.int .i64 0) (.slice none 0 0)))
    go_wp2_with fail
    go_ret
    exact ⟨rfl, HBE.out⟩
end Go.Proofs.YtgaamcmjonngjaaDoor

/- The H-theorem by entropies: the product of what is spread to its own powers is no greater. -/
namespace Go.Proofs.YtgaamcmjonngjaaDoor

/-- The moves can be gone to the end. -/
theorem MvJ.run {n : Nat} {p q : Nat → Int} {D : List Nat} (hD : D.Perm (List.range n)) : ∀ (m fr tq : Nat) (d : Nat → Int) (ml : List MvI), MvJ n p q D fr tq d ml → tq ≤ n → (n - tq) + (n - fr) + nzN d n ≤ m → ∃ fr' d' ml', MvJ n p q D fr' n d' ml'
  | 0, fr, tq, d, ml, h, hto, hm => by
    obtain rfl : tq = n := by omega
    exact ⟨fr, d, ml, h⟩
  | m + 1, fr, tq, d, ml, h, hto, hm => by
    rcases Nat.lt_or_ge tq n with h1 | h1
    · by_cases hd : d tq < 0
      · have hlt := h.lt h1 hd
        by_cases hf : d fr ≤ 0
        · exact MvJ.run hD m _ _ _ _ (h.skip h1 hd hf) hto (by omega)
        · obtain ⟨s, hs1, hs2, hs3⟩ : ∃ s, s ≤ d fr ∧ s ≤ - d tq ∧ (s = d fr ∨ s = - d tq) := ⟨min (d fr) (- d tq), by omega, by omega, by omega⟩
          have hJ := h.move hD h1 hd (by omega) s hs1 hs2 hs3
          have ne : tq ≠ fr := by omega
          have vF : setF (setF d fr (d fr - s)) tq (d tq + s) fr = d fr - s := by rw [setF_other (by omega), setF_at]
          have vT : setF (setF d fr (d fr - s)) tq (d tq + s) tq = d tq + s := setF_at _ _ _
          have hm2 : ∀ k, k < n → setF (setF d fr (d fr - s)) tq (d tq + s) k ≠ 0 → d k ≠ 0 := fun k _ hk => by
            by_cases e1 : k = fr
            · rw [e1]; omega
            · by_cases e2 : k = tq
              · rw [e2]; omega
              · rw [setF_other e2, setF_other e1] at hk; exact hk
          have hnz : nzN (setF (setF d fr (d fr - s)) tq (d tq + s)) n + 1 ≤ nzN d n := by
            rcases hs3 with e | e
            · exact nz_lt hm2 (show fr < n by omega) (by omega) (by rw [vF]; omega)
            · exact nz_lt hm2 h1 (by omega) (by rw [vT]; omega)
          exact MvJ.run hD m _ _ _ _ hJ hto (by omega)
      · exact MvJ.run hD m _ _ _ _ (h.next hd) h1 (by omega)
    · obtain rfl : tq = n := by omega
      exact ⟨fr, d, ml, h⟩
theorem moves_exist {n : Nat} {p q : Nat → Int} (h0 : 0 < n) (hp : ∀ k, k < n → 0 ≤ p k ∧ p k ≤ 4096) (hq : ∀ k, k < n → 0 ≤ q k ∧ q k ≤ 4096) (hs : sumN p n = sumN q n) (hd : dipN (surF p q n) n = false) : ∃ ml, MvOk n p q ml := by
  obtain ⟨D, hD, hm⟩ := fall_places p n
  obtain ⟨fr, d, ml, h⟩ := MvJ.run hD _ _ _ _ _ (MvJ.start (q := q) h0 hm hp hq hs hd) (Nat.zero_le _) (Nat.le_refl _)
  exact ⟨ml, h.done hD⟩
def prdL : List Int → Nat
  | [] => 1
  | x :: l => selfP x.toNat * prdL l
theorem prdL_perm {l r : List Int} (h : l.Perm r) : prdL l = prdL r := by
  induction h with
  | nil => rfl
  | cons x _ ih => simp [prdL, ih]
  | swap x y l => simp only [prdL]; rw [Nat.mul_left_comm]
  | trans _ _ h1 h2 => rw [h1, h2]
theorem prdL_append : ∀ a b : List Int, prdL (a ++ b) = prdL a * prdL b
  | [], b => by simp [prdL]
  | x :: a, b => by simp only [List.cons_append, prdL]; rw [prdL_append a b, Nat.mul_assoc]
theorem prdO_list (z : Nat → Int) : ∀ n, prdO z n = prdL (rowL z n)
  | 0 => rfl
  | n + 1 => by
    have h : rowL z (n + 1) = rowL z n ++ [z n] := by simp [rowL, List.range_succ]
    rw [h, prdL_append, ← prdO_list z n, prdO]
    simp [prdL]
theorem prdO_fall {z z' : Nat → Int} {n : Nat} (h : fallL z n = fallL z' n) : prdO z n = prdO z' n := by
  rw [prdO_list, prdO_list, ← prdL_perm (fallL_perm z n), ← prdL_perm (fallL_perm z' n), h]
/-- SCHUR. -/
theorem schur_fall {n : Nat} {p q : Nat → Int} (h0 : 0 < n) (hp : ∀ k, k < n → 0 ≤ p k ∧ p k ≤ 4096) (hq : ∀ k, k < n → 0 ≤ q k ∧ q k ≤ 4096) (hs : sumN p n = sumN q n) (hd : dipN (surF p q n) n = false) : prdO q n ≤ prdO p n := by
  obtain ⟨ml, _, c, hr, hc⟩ := moves_exist h0 hp hq hs hd
  rw [← prdO_fall hc]
  exact (moves_below hp hr).2.2.1
theorem sprF_sum {R : Nat} {ns : Nat → Nat} {zs : Nat → Nat → Int} {w : Nat → Int} (h : SqOk R ns zs) : sumN (sprF R zs w) R = sumN (zs 0) R * sumN w R := by
  show sumN (fun i => sumN (fun k => zs i k * w k) R) R = _
  rw [sumN_swap (fun i k => zs i k * w k) R R, sumN_congr (z' := fun k => sumN (zs 0) R * w k) (fun k hk => ?_), sumN_mul]
  rw [sumN_mulr, show sumN (fun j => zs j k) R = sumN (zs 0) R from h.col k hk]
theorem prdO_scale {w : Nat → Int} {S : Nat} : ∀ {n : Nat}, (∀ i, i < n → 0 ≤ w i) → prdO (fun i => w i * (S : Int)) n = S ^ (S * (sumN w n).toNat) * prdO w n ^ S
  | 0, _ => by simp [prdO, sumN]
  | n + 1, h => by
    have h1 := h n (by omega)
    have h2 := sumN_nonneg (z := w) (n := n) (fun i hi => h i (by omega))
    rw [prdO, prdO, prdO_scale (fun i hi => h i (by omega))]
    show _ * selfP (w n * (S : Int)).toNat = S ^ (S * (sumN w n + w n).toNat) * _
    obtain ⟨x, hx⟩ : ∃ x : Nat, w n = (x : Int) := ⟨(w n).toNat, by omega⟩
    rw [hx, show ((x : Int) * (S : Int)).toNat = x * S by rw [← Int.natCast_mul, Int.toNat_natCast], Int.toNat_natCast, show (sumN w n + (x : Int)).toNat = (sumN w n).toNat + x by omega]
    unfold selfP
    rw [Nat.mul_add, Nat.pow_add, Nat.mul_pow, Nat.mul_pow (a := prdO w n), ← Nat.pow_mul x x S, Nat.mul_comm S x]
    simp only [Nat.mul_assoc, Nat.mul_left_comm, Nat.mul_comm]
/-- What is spread, to its own powers. -/
theorem spread_prd {R : Nat} {ns : Nat → Nat} {zs : Nat → Nat → Int} {w : Nat → Int} {S : Nat} (h : SqOk R ns zs) (hS : sumN (zs 0) R = (S : Int)) (hw : ∀ k, k < R → 0 ≤ w k) (hsum : (S : Int) * sumN w R ≤ 4096) : prdO (sprF R zs w) R ≤ S ^ (S * (sumN w R).toNat) * prdO w R ^ S := by
  rw [← prdO_scale hw]
  have hsp : ∀ i, i < R → 0 ≤ sprF R zs w i := fun i hi => sumN_nonneg fun k hk => Int.mul_nonneg (h.num i hi k hk).1 (hw k hk)
  have hso : ∀ i, i < R → 0 ≤ w i * (S : Int) := fun i hi => Int.mul_nonneg (hw i hi) (by omega)
  have e1 : sumN (fun i => w i * (S : Int)) R = (S : Int) * sumN w R := by rw [sumN_mulr, Int.mul_comm]
  have e2 := sprF_sum (w := w) h
  rw [hS] at e2
  have hd := spread_below (w := w) h
  rw [hS] at hd
  exact schur_fall h.pos (fun i hi => ⟨hso i hi, by have := sumN_ge hso hi; omega⟩) (fun i hi => ⟨hsp i hi, by have := sumN_ge hsp hi; omega⟩) (by rw [e1, e2]) hd
end Go.Proofs.YtgaamcmjonngjaaDoor

/- The document's ApplyFault. -/
namespace Go.Proofs.YtgaamcmjonngjaaDoor
open Go.RowKit

/-- A fault in a box of its own. -/
structure FltBx (w : World) (b : Nat) (x y : Int) : Prop where
  c0 : w.cell? ⟨b, 0, none⟩ = some (.int .i64 x)
  c1 : w.cell? ⟨b, 1, none⟩ = some (.int .i64 y)
  f0 : w.frozen? ⟨b, 0, none⟩ = false
  f1 : w.frozen? ⟨b, 1, none⟩ = false
theorem FltBx.later {w w' : World} {b : Nat} {x y : Int} (h : FltBx w b x y) (hb : Below w.heap.size w w') : FltBx w' b x y :=
  ⟨by rw [hb.cell (cell_lt h.c0)]; exact h.c0, by rw [hb.cell (cell_lt h.c1)]; exact h.c1, by rw [hb.frozen (show b < w.heap.size from cell_lt h.c0)]; exact h.f0, by rw [hb.frozen (show b < w.heap.size from cell_lt h.c0)]; exact h.f1⟩
theorem FltBx.fresh (w : World) (x y : Int) (t : TypeId) : FltBx (w.alloc (.cells #[.int .i64 x, .int .i64 y] t)) w.heap.size x y := ⟨by simp, by simp, by simp, by simp⟩
theorem FltBx.set {w : World} {b : Nat} {x y : Int} (h : FltBx w b x y) (x' y' : Int) : FltBx ((w.setCell ⟨b, 0, none⟩ (.int .i64 x')).setCell ⟨b, 1, none⟩ (.int .i64 y')) b x' y' := by
  refine ⟨?_, ?_, ?_, ?_⟩
  · rw [World.cell?_setCell_other _ _ _ _ (by simp)]; exact World.cell?_setCell_same _ _ _ h.c0
  · exact World.cell?_setCell_same _ _ _ (by rw [World.cell?_setCell_other _ _ _ _ (by simp)]; exact h.c1)
  · rw [World.frozen?_setCell, World.frozen?_setCell]; exact h.f0
  · rw [World.frozen?_setCell, World.frozen?_setCell]; exact h.f1
theorem fill_box {w W : World} {v : Value} {n : Nat} {f : Nat → Int} (h : FillV w W v n f) {B : Nat} (hB : B < w.heap.size) (x y : Value) : NumsAt ((W.setCell ⟨B, 0, none⟩ x).setCell ⟨B, 1, none⟩ y) v n f := by
  rcases h.2 with ⟨h0, hv⟩ | ⟨g, cap, hv, hf⟩
  · exact Or.inl ⟨_, _, hv, h0⟩
  · rcases Nat.eq_zero_or_pos n with h0 | h0
    · exact Or.inl ⟨_, _, by rw [hv, h0], h0⟩
    · refine Or.inr ⟨g, 0, cap, hv, h0, fun i hi => ?_⟩
      have hg := hf.hg
      rw [World.cell?_setCell_other _ _ _ _ (fun e => by have := congrArg Addr.block e; simp at this; omega), World.cell?_setCell_other _ _ _ _ (fun e => by have := congrArg Addr.block e; simp at this; omega)]
      exact hf.row i hi
/-- What is put behind nothing is a copy. -/
theorem wpList_append_copy {w : World} {ops : Array Oper} {rest : List Oper} {o : Oper} {a : Act} {Q : Exit → Act → World → Prop} (hgd : o.guard = none) (s x : Operand)
    (ho : o.op = .call { callee := .builtin .append, args := #[s, x], argTypes := #[22, 22] })
    (v : Value) (n : Nat) (z : Nat → Int) (hs : a.eval s = .slice none 0 0) (hx : a.eval x = v) (h : NumsAt w v n z) (hn : n ≤ 100000)
    (k : ∀ v' w', FillV w w' v' n z → wpList Tryd.prog ops Q rest (a.put o.dst v') w') : wpList Tryd.prog ops Q (o :: rest) a w := by
  rcases h with ⟨ad, cap, rfl, rfl⟩ | ⟨b, o', cap, rfl, h0, hr⟩
  · exact wpList_append_zeroI hgd s x ho ad cap hs hx (k _ _ ⟨Below.refl _ _, Or.inl ⟨rfl, rfl⟩⟩)
  · obtain ⟨i, hi, hi2⟩ := Option.map_eq_some_iff.1 Tryd.infoInt
    obtain ⟨hz, hsz, hby⟩ : i.zero = some (.int .i64 0) ∧ i.size = 1 ∧ i.bytes = 8 := by simpa using hi2
    refine wpList_append_lies w hgd s x 22 ho w.heap.size 3 i _ 1 8 Tryd.underlying22 hi hz hsz hby rfl (by omega) (.slice none 0 0) 0 [] hs ⟨rfl, Or.inl ⟨rfl, rfl⟩⟩ ⟨b, o', none⟩ n cap (numCells z n) hx (by rw [numCells_length, Nat.mul_one]) (fun j u hu => numCells_news hr j u hu) (fun u hu => by obtain ⟨x, rfl⟩ := numCells_ints z n u hu; rfl) h0 (by unfold maxLen; omega) (by omega) (Nat.le_refl _) _ rfl ?_
    intro g cap' w1 hown hgrow hat hlt
    have h1 : w1.ownsRow w.heap.size 3 1 (.slice (some ⟨g, 0, none⟩) (0 + n) cap') n (numCells z n) := by simpa using hown
    exact k _ _ (own_fill (by rw [Nat.zero_add] at h1 ⊢; exact h1) ((Below.refl _ _).grown hgrow (Nat.le_refl _) (fun k hk => by cases hk)))

end Go.Proofs.YtgaamcmjonngjaaDoor

/- Whatever numbers, put behind a row of one's own. -/
namespace Go.Proofs.YtgaamcmjonngjaaDoor
open Go.RowKit

theorem ow_push {B : Nat} {w0 wr w3 : World} {v : Value} {e : TypeId} {size n : Nat} {xs : List Value} (hB : Below B w0 wr) (hle : B ≤ wr.heap.size) (hR : wr.ownsRow B e size v n xs) (hg : wr.grownBy w3 v.ownBlock) : Below B w0 w3 :=
  hB.trans ((Below.refl _ _).grown hg hle (fun k e => (hR.lt k e).1))
theorem append_zeroV (w : World) (ty : TypeId) {B n : Nat} {v : Value} {xs : List Value} (hown : w.ownsRow B 3 1 v n xs) (ad : Option Addr) (cap : Nat) : (Builtin.append_ #[22, 22] ty #[v, .slice ad 0 cap]).run Tryd.prog w = .ok v w := by
  obtain ⟨i, hi, hi2⟩ := Option.map_eq_some_iff.1 Tryd.infoInt
  have src : Src Tryd.prog i.size 22 (.slice ad 0 cap) 0 [] w := by
    cases ad with
    | none => exact Src.ofNil w Tryd.underlying22 cap
    | some a => exact Src.ofSlice w Tryd.underlying22 a 0 cap [] (by simp) (fun j u h => by simp at h) (fun u h => by simp at h)
  rcases hown.2 with ⟨rfl, _⟩ | ⟨g, cp, cur, rfl, _, _, hc, _⟩
  · exact run_append_nothing w _ _ ty 3 i Tryd.underlying22 hi none 0 0 (Nat.le_refl _) _ src
  · exact run_append_nothing w _ _ ty 3 i Tryd.underlying22 hi _ n cp hc _ src
theorem wpList_append_own {w : World} {ops : Array Oper} {rest : List Oper} {o : Oper} {a : Act} {Q : Exit → Act → World → Prop} (hgd : o.guard = none) (s x : Operand)
    (ho : o.op = .call { callee := .builtin .append, args := #[s, x], argTypes := #[22, 22] })
    (w0 : World) (B : Nat) (v : Value) (n : Nat) (xs : List Value) (src : Value) (m : Nat) (y : Nat → Int) (hs : a.eval s = v) (hx : a.eval x = src) (hown : w.ownsRow B 3 1 v n xs) (hB : Below B w0 w) (hle : B ≤ w.heap.size) (h : NumsAt w src m y) (hn : n + m ≤ 100000)
    (k : ∀ v' w', w'.ownsRow B 3 1 v' (n + m) (xs ++ numCells y m) → Below B w0 w' → B ≤ w'.heap.size → wpList Tryd.prog ops Q rest (a.put o.dst v') w') : wpList Tryd.prog ops Q (o :: rest) a w := by
  rcases h with ⟨ad, cap, rfl, rfl⟩ | ⟨b, o', cap, rfl, h0, hr⟩
  · refine wpList_plain hgd fun K hK => ?_
    have hrun := append_zeroV w o.type hown ad cap
    unfold Oper.wp
    simp [execOp, ho, resolve, invoke, builtin, hs, hx, hrun, Result.andThen]
    exact hK _ _ (k _ _ (by simpa [numCells] using hown) hB hle)
  · obtain ⟨i, hi, hi2⟩ := Option.map_eq_some_iff.1 Tryd.infoInt
    obtain ⟨hz, hsz, hby⟩ : i.zero = some (.int .i64 0) ∧ i.size = 1 ∧ i.bytes = 8 := by simpa using hi2
    refine wpList_append_lies w hgd s x 22 ho B 3 i _ 1 8 Tryd.underlying22 hi hz hsz hby rfl (by omega) v n xs hs hown ⟨b, o', none⟩ m cap (numCells y m) hx (by rw [numCells_length, Nat.mul_one]) (fun j u hu => numCells_news hr j u hu) (fun u hu => by obtain ⟨x, rfl⟩ := numCells_ints y m u hu; rfl) h0 (by unfold maxLen; omega) (by omega) hle _ rfl ?_
    intro g cap' w1 hown1 hgrow hat hlt
    have hb1 := ow_push hB hle hown hgrow
    exact k _ _ hown1 hb1 (Nat.le_trans hle (ow_push (Below.refl _ _) hle hown hgrow).size)
end Go.Proofs.YtgaamcmjonngjaaDoor

/- The document's Falling. -/
namespace Go.Proofs.YtgaamcmjonngjaaDoor
open Go.RowKit

/-- A list in memory, with its room. -/
def RowIs (w : World) (v : Value) (L : List Int) : Prop := (L = [] ∧ v = .slice none 0 0) ∨ ∃ b cap, v = .slice (some ⟨b, 0, none⟩) L.length cap ∧ 0 < L.length ∧ L.length ≤ cap ∧ RowAt w b 0 L.length (atF L)
theorem RowIs.later {w w' : World} {v : Value} {L : List Int} (h : RowIs w v L) (hb : Below w.heap.size w w') : RowIs w' v L := by
  rcases h with h | ⟨b, cap, hv, h0, h1, h2⟩
  · exact Or.inl h
  · exact Or.inr ⟨b, cap, hv, h0, h1, h2.later hb⟩
theorem RowIs.nums {w : World} {v : Value} {L : List Int} (h : RowIs w v L) : NumsAt w v L.length (atF L) := by
  rcases h with ⟨rfl, hv⟩ | ⟨b, cap, hv, h0, h1, h2⟩
  · exact Or.inl ⟨_, _, hv, rfl⟩
  · exact Or.inr ⟨b, 0, cap, hv, h0, h2⟩
theorem rowIs_own {w : World} {B : Nat} {v : Value} {L : List Int} {n : Nat} (h : w.ownsRow B 3 1 v n (cellL L)) (hn : n = L.length) (h0 : 0 < n) : RowIs w v L := by
  subst hn
  rcases h.2 with ⟨_, h1⟩ | ⟨g, cap, cur, rfl, _, _, hc, _⟩
  · omega
  · refine Or.inr ⟨g, cap, rfl, h0, hc, ?_⟩
    rw [← numCells_list] at h
    exact rowAt_of_row h
theorem rowL_take (L : List Int) (k : Nat) (hk : k ≤ L.length) : rowL (atF L) k = L.take k := by
  refine List.ext_getElem (by simp [rowL]; omega) (fun i h1 h2 => ?_)
  simp [rowL] at h1
  simp [rowL, atF, List.getD, show i < L.length by omega]
theorem rowL_drop (L : List Int) (k : Nat) : rowL (fun j => atF L (k + j)) (L.length - k) = L.drop k := by
  refine List.ext_getElem (by simp [rowL]) (fun i h1 h2 => ?_)
  simp [rowL] at h1
  simp [rowL, atF, List.getD, show k + i < L.length by omega]
theorem ins_cells (L : List Int) (x : Int) (k : Nat) (hk : k ≤ L.length) : numCells (atF L) k ++ numCells (fun _ => x) 1 ++ numCells (fun j => atF L (k + j)) (L.length - k) = cellL (L.take k ++ x :: L.drop k) := by
  rw [← cellL_row, ← cellL_row, ← cellL_row, rowL_take L k hk, rowL_drop]
  simp [cellL, rowL]
theorem one_num (W : World) (x : Int) (t : TypeId) : NumsAt (W.alloc (.cells #[.int .i64 x] t)) (.slice (some ⟨W.heap.size, 0, none⟩) 1 1) 1 (fun _ => x) :=
  Or.inr ⟨_, 0, 1, rfl, by decide, fun i hi => by
    obtain rfl : i = 0 := by omega
    simp⟩
theorem sub_head {W : World} {b cp k : Nat} {L : List Int} (h : RowAt W b 0 L.length (atF L)) (hk : k ≤ L.length) : NumsAt W (.slice (some ⟨b, 0, none⟩) k cp) k (atF L) := by
  rcases Nat.eq_zero_or_pos k with h0 | h0
  · exact Or.inl ⟨_, _, by rw [h0], h0⟩
  · exact Or.inr ⟨b, 0, cp, rfl, h0, fun i hi => h i (by omega)⟩
theorem sub_tail {W : World} {b cp k : Nat} {L : List Int} (h : RowAt W b 0 L.length (atF L)) (hk : k ≤ L.length) : NumsAt W (.slice (some ⟨b, k, none⟩) (L.length - k) cp) (L.length - k) (fun j => atF L (k + j)) := by
  rcases Nat.eq_zero_or_pos (L.length - k) with h0 | h0
  · exact Or.inl ⟨_, _, by rw [h0], h0⟩
  · exact Or.inr ⟨b, k, cp, rfl, h0, fun i hi => by have := h (k + i) (by omega); rwa [Nat.zero_add] at this⟩
theorem row_made {W : World} {B : Nat} {v : Value} {L : List Int} {x : Int} {k m n : Nat} (hk : k ≤ L.length) (hm : m = L.length - k) (hn : n = L.length + 1) (h : W.ownsRow B 3 1 v n (([] ++ numCells (atF L) k) ++ numCells (fun _ => x) 1 ++ numCells (fun j => atF L (k + j)) m)) : RowIs W v (L.take k ++ x :: L.drop k) := by
  rw [hm, List.nil_append, ins_cells L x k hk] at h
  refine rowIs_own h ?_ (by omega)
  simp; omega

end Go.Proofs.YtgaamcmjonngjaaDoor

/- The program's Spread, the document's SpreadOf. -/
namespace Go.Proofs.YtgaamcmjonngjaaDoor
open Go.RowKit

def spE (R : Nat) (ns : Nat → Nat) (zs : Nat → Nat → Int) (n : Nat) (w : Nat → Int) : Nat := if sqE R ns zs = 0 then (if n ≠ R ∨ noN w n = true then 3 else 0) else sqE R ns zs
theorem spE_le (R : Nat) (ns : Nat → Nat) (zs : Nat → Nat → Int) (n : Nat) (w : Nat → Int) : spE R ns zs n w ≤ 8 := by
  have := sqE_le R ns zs
  unfold spE
  split
  · split <;> omega
  · omega
theorem spE_ok {R : Nat} {ns : Nat → Nat} {zs : Nat → Nat → Int} {n : Nat} {w : Nat → Int} (h : spE R ns zs n w = 0) : SqOk R ns zs ∧ n = R ∧ noN w n = false := by
  unfold spE at h
  by_cases h1 : sqE R ns zs = 0
  · rw [if_pos h1] at h
    by_cases h2 : n ≠ R ∨ noN w n = true
    · rw [if_pos h2] at h; cases h
    · simp only [not_or, Decidable.not_not, ne_eq, Bool.not_eq_true] at h2
      exact ⟨sqE_ok h1, h2.1, h2.2⟩
  · rw [if_neg h1] at h; exact absurd h h1

set_option maxRecDepth 100000 in
set_option maxHeartbeats 4000000 in
theorem Spread_ok (a : Nat → Addr) (v : Value) (R : Nat) (vs : Nat → Value) (ns : Nat → Nat) (zs : Nat → Nat → Int) (u : Value) (n : Nat) (z : Nat → Int) (w : World) (hE : Errs w a) (h : TabAt w v R vs ns zs) (hu : NumsAt w u n z) (hns : ∀ i, i < R → ns i ≤ 100000) (he : spE R ns zs n z = 0) :
    Calls Tryd.prog 21 #[v, u] w fun e w' => ∃ r, e = .returned (.tuple #[r, .nilIface]) ∧ NumsAt w' r R (sprF R zs z) ∧ Below w.heap.size w w' := by
  obtain ⟨hsq, rfl, hno⟩ := spE_ok he
  have hte := tableError_any a v n vs ns zs w hE h (by have := hsq.le; omega) hns
  have hs0 : sqE n ns zs = 0 := by
    unfold spE at he
    by_cases h1 : sqE n ns zs = 0
    · exact h1
    · rw [if_neg h1] at he; exact he
  rw [hs0, errV_zero] at hte
  have hcf := ContainsFunc_num u n z w hu (by have := hsq.le; omega)
  rw [hno] at hcf
  have hpos := hsq.pos
  have hle := hsq.le
  obtain ⟨i0, hii, hz0, hz1, hz2⟩ := info_parts Tryd.infoInt
  have HINF : Hid (Tryd.prog.info? 3 = some i0 ∧ i0.zero = some (.int .i64 0) ∧ i0.size = 1 ∧ i0.bytes = 8) := ⟨hii, hz0, hz1, hz2⟩
  have HW := Hid.mk' (noN_none hno)
  have HBN := Hid.mk' (fun i (hi : i < n) => sprF_bnd hsq (noN_none hno) hi)
  have HLN := Hid.mk' hsq.len
  have HNM := Hid.mk' hsq.num
  have HTL := Hid.mk' (fun (W : World) (hb : Below w.heap.size w W) => h.later hb)
  rcases hu with ⟨_, _, _, h1⟩ | ⟨ub, uo, ucap, rfl, _, hur⟩
  · omega
  have HUR := Hid.mk' (fun (W : World) (hb : Below w.heap.size w W) => hur.later hb)
  obtain ⟨ad, cap, rfl⟩ := h.form
  have k2 : ((n : Int) != (n : Int)) = false := by simp
  clear hii hz0 hz1 hz2 h hur hno he hs0 hsq hns hE
  go_enter Tryd.func21, Tryd.ntmps21
  go_wp2_with fail
  refine hte.mono ?_
  clear hte
  rintro e w1 ⟨rfl, hw1⟩
  rw [hw1]
  clear hw1
  go_wp2_with fail
  refine hcf.mono ?_
  clear hcf
  rintro e w1 ⟨rfl, hw1⟩
  rw [hw1]
  clear hw1
  go_wp2_with (at_make; go_must (refine wpList_make_full _ rfl _ _ _ rfl w.heap.size 3 i0 _ 1 Tryd.underlying22 HINF.out.1 HINF.out.2.1 HINF.out.2.2.1 .i64 .i64 _ _ n rfl rfl rfl rfl (by rw [HINF.out.2.2.2]; omega) (by unfold maxLen; omega) (Nat.le_refl _) ?_; intro w3 hown3 hgrow3; have HF3 := Hid.mk' (fills_made hown3 (made_zero n) hgrow3); clear hown3 hgrow3))
  go_loopw [32] (fun t wr => ∃ k : Nat, k ≤ n ∧ t = .int .i64 k ∧ Hid (Fills w wr w.heap.size n (fun j => if j < k then sprF n zs z j else 0))) (fun t _ => n - (intOf t).toNat)
  case atStart => exact ⟨0, Nat.zero_le _, rfl, by simpa using HF3⟩
  case round =>
    clear HF3
    obtain ⟨k, hk, rfl, HF⟩ := hrel
    rcases Nat.lt_or_ge k n with h1 | h1
    · have hkn : (k : Int) < (n : Int) := by omega
      have hk0 : (0 : Int) ≤ (k : Int) := by omega
      obtain ⟨b, o, rfl, hcv, hnum⟩ := (HTL.out wr HF.out.below).row h1
      rw [HLN.out k h1] at hnum
      rcases hnum with ⟨_, _, _, h0⟩ | ⟨rb, ro, rc, hv, _, _⟩
      · omega
      have HRW : Hid (∀ W, Below w.heap.size w W → RowAt W rb ro n (zs k)) := fun W hb => by
        obtain ⟨_, _, _, _, hnum⟩ := (HTL.out W hb).row h1
        rw [HLN.out k h1, hv] at hnum
        rcases hnum with ⟨_, _, e, _⟩ | ⟨rb', ro', rc', e, _, hrow⟩
        · simp at e; omega
        · simp at e
          obtain ⟨⟨rfl, rfl⟩, rfl⟩ := e
          exact hrow
      rw [hv] at hcv
      have HZK := Hid.mk' (HNM.out k h1)
      have HBK := Hid.mk' (HBN.out k h1)
      have HSF : Hid (sprF n zs z k = sumN (fun c => zs k c * z c) n) := rfl
      have HF0 : Hid (Fills w wr w.heap.size n (fun j => if j < k then sprF n zs z j else if j = k then sumN (fun c => zs k c * z c) 0 else 0)) := by
        refine ⟨fun i hi => ?_, HF.out.fz, HF.out.below, HF.out.hg⟩
        have := HF.out.row i hi
        rw [this]
        by_cases h5 : i < k
        · rw [if_pos h5, if_pos h5]
        · rw [if_neg h5, if_neg h5]; split <;> rfl
      clear hv
      go_wp2_with fail
      go_loopw [39] (fun t wr => ∃ c : Nat, c ≤ n ∧ t = .int .i64 c ∧ Hid (Fills w wr w.heap.size n (fun j => if j < k then sprF n zs z j else if j = k then sumN (fun c => zs k c * z c) c else 0))) (fun t _ => n - (intOf t).toNat)
      case atStart => exact ⟨0, Nat.zero_le _, rfl, HF0.out⟩
      case round =>
        clear HF HF0 hcv
        obtain ⟨c, hc, rfl, HF⟩ := hrel
        rcases Nat.lt_or_ge c n with h2 | h2
        · have hcn : (c : Int) < (n : Int) := by omega
          have hc0 : (0 : Int) ≤ (c : Int) := by omega
          have hx := HRW.out wr HF.out.below c h2
          have hy := HUR.out wr HF.out.below c h2
          have hcF := HF.out.row k h1
          have hfz := HF.out.fz k h1
          rw [Nat.zero_add] at hcF hfz
          rw [if_neg (by omega), if_pos rfl] at hcF
          have b1 := HZK.out c h2
          have b2 := HW.out c h2
          have b3 := HBK.out c hc
          have b4 := HBK.out (c + 1) h2
          have HS1 : Hid (sumN (fun c => zs k c * z c) (c + 1) = sumN (fun c => zs k c * z c) c + zs k c * z c) := rfl
          have b5 : 0 ≤ zs k c * z c := Int.mul_nonneg b1.1 b2.1
          have b6 : zs k c * z c ≤ 16777216 := by
            have := Int.mul_le_mul b1.2 b2.2 b2.1 (by decide : (0 : Int) ≤ 4096)
            omega
          have HS := Hid.mk' (HF.out.set h1 (sumN (fun c => zs k c * z c) c + zs k c * z c) (f' := fun j => if j < k then sprF n zs z j else if j = k then sumN (fun c => zs k c * z c) (c + 1) else 0) (fun i hi => by
            by_cases h5 : i = k
            · subst h5
              simp only [Nat.lt_irrefl, if_true, if_false]
              exact HS1.out
            · simp only [h5, if_false]))
          generalize sumN (fun c => zs k c * z c) c = s at *
          obtain ⟨x, hxe⟩ : ∃ x, x = zs k c := ⟨_, rfl⟩
          obtain ⟨y, hye⟩ : ∃ y, y = z c := ⟨_, rfl⟩
          rw [← hxe] at hx b1 b5 b6 HS
          rw [← hye] at hy b2 b5 b6 HS
          clear hxe hye HS1 b4
          go_wp2_with fail
          go_region
          go_wp2_with fail
          exact ⟨⟨c + 1, h2, by go_num, by first | exact HS.out | exact HS.out.drew⟩, by simp [intOf]; omega⟩
        · obtain rfl : c = n := by omega
          have hcn : ¬ (c : Int) < (c : Int) := by omega
          have HFN : Hid (Fills w wr w.heap.size c (fun j => if j < k + 1 then sprF c zs z j else 0)) := by
            refine ⟨fun i hi => ?_, HF.out.fz, HF.out.below, HF.out.hg⟩
            rw [HF.out.row i hi]
            by_cases h5 : i < k
            · simp only [h5, if_true, show i < k + 1 by omega]
            · by_cases h6 : i = k
              · subst h6
                simp only [Nat.lt_irrefl, if_true, if_false, show i < i + 1 by omega]
                rfl
              · simp only [h5, h6, if_false, show ¬ i < k + 1 by omega]
          go_wp2_with fail
          exact ⟨⟨k + 1, h1, by go_num, HFN.out⟩, by simp [intOf]; omega⟩
    · obtain rfl : k = n := by omega
      have hkn : ¬ (k : Int) < (k : Int) := by omega
      have HRES : Hid (RowAt wr w.heap.size 0 k (sprF k zs z)) := fun i hi => by have := HF.out.row i hi; rwa [if_pos hi] at this
      go_wp2_with fail
      go_ret2
      exact ⟨_, rfl, Or.inr ⟨_, 0, _, rfl, hpos, HRES.out⟩, HF.out.below⟩
end Go.Proofs.YtgaamcmjonngjaaDoor

/- Spread of what is wrong; the document's SpreadOf. -/
namespace Go.Proofs.YtgaamcmjonngjaaDoor
open Go.RowKit

set_option maxRecDepth 100000 in
theorem Spread_bad (a : Nat → Addr) (v : Value) (R : Nat) (vs : Nat → Value) (ns : Nat → Nat) (zs : Nat → Nat → Int) (u : Value) (n : Nat) (z : Nat → Int) (w : World) (hE : Errs w a) (h : TabAt w v R vs ns zs) (hu : NumsAt w u n z) (hR : R ≤ 1000) (hns : ∀ i, i < R → ns i ≤ 100000) (hn : n ≤ 100000) (he : spE R ns zs n z ≠ 0) :
    Calls Tryd.prog 21 #[v, u] w fun e w' => e = .returned (.tuple #[.slice none 0 0, errV a (spE R ns zs n z)]) ∧ Below w.heap.size w w' := by
  have hte := tableError_any a v R vs ns zs w hE h hR hns
  have hcf := ContainsFunc_num u n z w hu (by omega)
  have e2 := hE.c2
  obtain ⟨ad, cap, rfl⟩ := h.form
  obtain ⟨uad, ucap, rfl⟩ := hu.form
  clear h hu hE hns
  by_cases h1 : sqE R ns zs = 0
  · have hbad : n ≠ R ∨ noN z n = true := Decidable.byContradiction fun hc => he (by unfold spE; rw [if_pos h1, if_neg hc])
    have HV : Hid (errV a (spE R ns zs n z) = .iface 227 (.pointer (some (a 2)))) := by show _ = _; unfold spE; rw [if_pos h1, if_pos hbad]; rfl
    rw [h1, errV_zero] at hte
    by_cases h2 : n = R
    · have k2 : ((n : Int) != (R : Int)) = false := by simp; omega
      rw [hbad.resolve_left (fun h => h h2)] at hcf
      clear he h1 h2 hbad
      go_enter Tryd.func21, Tryd.ntmps21
      go_wp2_with fail
      refine hte.mono ?_
      clear hte
      rintro e w1 ⟨rfl, hw1⟩
      rw [hw1]
      clear hw1
      go_wp2_with fail
      refine hcf.mono ?_
      clear hcf
      rintro e w1 ⟨rfl, hw1⟩
      rw [hw1]
      clear hw1
      go_wp2_with fail
      go_quiet (fail)
      go_wp2_with fail
      go_ret2
      exact ⟨by rw [HV.out]; rfl, below_drewN (Below.refl _ _) _⟩
    · have k2 : ((n : Int) != (R : Int)) = true := by simp; omega
      clear he h1 h2 hbad hcf
      go_enter Tryd.func21, Tryd.ntmps21
      go_wp2_with fail
      refine hte.mono ?_
      clear hte
      rintro e w1 ⟨rfl, hw1⟩
      rw [hw1]
      clear hw1
      go_wp2_with fail
      go_quiet (fail)
      go_wp2_with fail
      go_ret2
      exact ⟨by rw [HV.out]; rfl, below_drewN (Below.refl _ _) _⟩
  · have HV : Hid (errV a (spE R ns zs n z) = errV a (sqE R ns zs)) := by show _ = _; unfold spE; rw [if_neg h1]
    obtain ⟨e, hee⟩ : ∃ e, errV a (sqE R ns zs) = e := ⟨_, rfl⟩
    obtain ⟨t, x, rfl⟩ : ∃ t x, e = .iface t x := by rw [← hee, errV_pos a h1]; exact ⟨_, _, rfl⟩
    have HE2 := Hid.mk' hee
    rw [hee] at hte
    clear he h1 hcf hee
    go_enter Tryd.func21, Tryd.ntmps21
    go_wp2_with fail
    refine hte.mono ?_
    clear hte
    rintro e w1 ⟨rfl, hw1⟩
    rw [hw1]
    clear hw1
    go_wp2_with fail
    go_ret2
    exact ⟨by rw [HV.out, HE2.out]; rfl, Below.refl _ _⟩

theorem own_drewO {w : World} {base : Nat} {e : TypeId} {s n : Nat} {v : Value} {xs : List Value} (h : w.ownsRow base e s v n xs) (q : Nat) : (w.drewN q).ownsRow base e s v n xs := h
end Go.Proofs.YtgaamcmjonngjaaDoor

/- The closed fact at the head of all Order laws: all at one place is above an even share. -/
namespace Go.Proofs.YtgaamcmjonngjaaDoor
open Go.RowKit

def unP : Nat → Int := fun i => if i = 0 then 0 else 4
def unQ : Nat → Int := fun _ => 2
theorem un_err : prE 2 unP 2 unQ = 0 := by decide +kernel
theorem un_dip : dipN (surF unP unQ 2) 2 = false := by decide +kernel
set_option maxRecDepth 100000 in
set_option maxHeartbeats 2000000 in
theorem unlike_any (a : Nat → Addr) (w : World) (hE : Errs w a) :
    Calls Tryd.prog 9 #[] w fun e w' => e = .returned (.bool true) ∧ Below w.heap.size w w' := by
  obtain ⟨W0, hW0⟩ : ∃ W0, W0 = w.alloc (.cells #[.int .i64 0, .int .i64 4] 3) := ⟨_, rfl⟩
  obtain ⟨W1, hW1⟩ : ∃ W1, W1 = W0.alloc (.cells #[.int .i64 2, .int .i64 2] 3) := ⟨_, rfl⟩
  have hb0 : Below w.heap.size w W0 := by rw [hW0]; exact (Below.refl _ _).alloc (Nat.le_refl _) _
  have hb01 : Below W0.heap.size W0 W1 := by rw [hW1]; exact (Below.refl _ _).alloc (Nat.le_refl _) _
  have hs0 : W0.heap.size = w.heap.size + 1 := by rw [hW0]; simp
  have hN : NumsAt W0 (.slice (some ⟨w.heap.size, 0, none⟩) 2 2) 2 unP := by
    refine Or.inr ⟨_, 0, 2, rfl, by decide, fun i hi => ?_⟩
    rw [hW0]
    rcases (show i = 0 ∨ i = 1 by omega) with rfl | rfl <;> go_simp <;> rfl
  have hM : NumsAt W1 (.slice (some ⟨w.heap.size + 1, 0, none⟩) 2 2) 2 unQ := by
    refine Or.inr ⟨_, 0, 2, rfl, by decide, fun i hi => ?_⟩
    rw [hW1, ← hs0]
    rcases (show i = 0 ∨ i = 1 by omega) with rfl | rfl <;> go_simp <;> rfl
  have hb1 := below_chain hb0 hb01
  have hA : Calls Tryd.prog 13 #[.slice (some ⟨w.heap.size, 0, none⟩) 2 2, .slice (some ⟨w.heap.size + 1, 0, none⟩) 2 2] W1 fun e w' => e = .returned (.tuple #[.bool true, .nilIface]) ∧ Below W1.heap.size W1 w' := by
    have h := Above_any a _ _ 2 2 unP unQ W1 (hE.below hb1) (hN.later hb01) hM (by omega) (by omega)
    rw [un_err, un_dip] at h
    exact h
  have HA := Hid.mk' hA
  have HB := Hid.mk' hb1
  have HW : Hid ((w.alloc (.cells #[.int .i64 0, .int .i64 4] 3)).alloc (.cells #[.int .i64 2, .int .i64 2] 3) = W1) := by show _ = _; rw [hW1, hW0]
  clear hE hb0 hb01 hb1 hN hM hA hW0 hW1 hs0
  go_enter Tryd.func9, Tryd.ntmps9
  go_wp2_with fail
  rw [HW.out]
  refine HA.out.mono ?_
  rintro e w2 ⟨rfl, hb2⟩
  have HB2 := Hid.mk' (below_chain HB.out hb2)
  clear hb2 HA
  go_wp2_with fail
  go_ret
  exact ⟨rfl, HB2.out⟩
end Go.Proofs.YtgaamcmjonngjaaDoor

/- The document's TableError; the law's copies of tables. -/
namespace Go.Proofs.YtgaamcmjonngjaaDoor
open Go.RowKit

theorem tabErr_many {R : Nat} {ns : Nat → Nat} {zs : Nat → Nat → Int} (h : 16 < R) : tabErr R ns zs = 2 := by unfold tabErr; exact if_pos h
theorem tabErr_long {R : Nat} {ns : Nat → Nat} {zs : Nat → Nat → Int} (h : ¬ 16 < R) (hl : longB ns R = true) : tabErr R ns zs = 2 := by unfold tabErr; rw [if_neg h, if_pos hl]
theorem tabErr_uneven {R : Nat} {ns : Nat → Nat} {zs : Nat → Nat → Int} (h : ¬ 16 < R) (hl : longB ns R = false) (hu : unevenB ns R = true) : tabErr R ns zs = 3 := by unfold tabErr; rw [if_neg h, if_neg (by rw [hl]; simp), if_pos hu]
theorem tabErr_even {R : Nat} {ns : Nat → Nat} {zs : Nat → Nat → Int} (h : ¬ 16 < R) (hl : longB ns R = false) (hu : unevenB ns R = false) : tabErr R ns zs = listErr (atF (flatL ns zs R)) (flatL ns zs R).length := by unfold tabErr; rw [if_neg h, if_neg (by rw [hl]; simp), if_neg (by rw [hu]; simp)]
theorem not_long {ns : Nat → Nat} : ∀ {n : Nat}, longB ns n = false → ∀ i, i < n → ns i ≤ 16
  | n, h, i, hi => by
    rcases Nat.lt_or_ge 16 (ns i) with h' | h'
    · rw [longB_mono hi h'] at h; cases h
    · exact h'
theorem sumT_le {ns : Nat → Nat} {B : Nat} : ∀ {n : Nat}, (∀ i, i < n → ns i ≤ B) → sumT ns n ≤ n * B
  | 0, _ => Nat.zero_le _
  | n + 1, h => by
    have h1 := sumT_le (ns := ns) (B := B) (n := n) (fun i hi => h i (by omega))
    have h2 := h n (by omega)
    show sumT ns n + ns n ≤ (n + 1) * B
    rw [Nat.add_mul]; omega
theorem sumT_small {ns : Nat → Nat} {R : Nat} (hR : ¬ 16 < R) (hl : longB ns R = false) : sumT ns R ≤ 256 := by
  have h1 := sumT_le (ns := ns) (B := 16) (not_long hl)
  have h2 : R * 16 ≤ 16 * 16 := Nat.mul_le_mul_right _ (by omega)
  omega

end Go.Proofs.YtgaamcmjonngjaaDoor

/- The law's copies of tables; the program's list of a table's weights. -/
namespace Go.Proofs.YtgaamcmjonngjaaDoor
open Go.RowKit

theorem Tryd.infoInts : (Tryd.prog.info? 22).map (fun i => (i.zero, i.size, i.bytes)) = some (some (.slice none 0 0), 1, 24) := by kernel_rfl
def rowV (vs : Nat → Value) (k : Nat) : List Value := (List.range k).map vs
theorem rowV_length (vs : Nat → Value) (k : Nat) : (rowV vs k).length = k := by simp [rowV]
theorem rowV_push (vs : Nat → Value) (k : Nat) (v : Value) : rowV vs k ++ [v] = rowV (fun i => if i = k then v else vs i) (k + 1) := by
  unfold rowV
  rw [List.range_succ, List.map_append]
  congr 1
  · refine List.map_congr_left (fun i hi => ?_)
    have := List.mem_range.1 hi
    rw [if_neg (by omega)]
  · simp
theorem tabAt_of_row {w : World} {base : Nat} {t : TypeId} {v : Value} {R : Nat} {vs : Nat → Value} {ns : Nat → Nat} {zs : Nat → Nat → Int} (h : w.ownsRow base t 1 v R (rowV vs R)) (hn : ∀ i, i < R → NumsAt w (vs i) (ns i) (zs i)) : TabAt w v R vs ns zs := by
  rcases h.2 with ⟨hv, h0⟩ | ⟨g, cap, cur, hv, _, hh, _, _, hs, ht⟩
  · exact Or.inl ⟨none, 0, hv, h0⟩
  · rcases Nat.eq_zero_or_pos R with h0 | h0
    · exact Or.inl ⟨_, _, by rw [hv, h0], h0⟩
    · refine Or.inr ⟨g, 0, cap, hv, h0, fun i hi => ⟨?_, hn i hi⟩⟩
      have h1 : (rowV vs R)[i]? = some (vs i) := by simp [rowV, hi]
      rw [← h1, ← ht, List.getElem?_take_of_lt (by omega)]
      simp [World.cell?, hh]
theorem own_past {w w' : World} {base : Nat} {t : TypeId} {sz : Nat} {v : Value} {n : Nat} {xs : List Value} (h : w.ownsRow base t sz v n xs) (hb : Below w.heap.size w w') : w'.ownsRow base t sz v n xs := by
  obtain ⟨hl, hr⟩ := h
  refine ⟨hl, ?_⟩
  rcases hr with hr | ⟨g, cap, cur, hv, hb1, hh, rest⟩
  · exact Or.inl hr
  · exact Or.inr ⟨g, cap, cur, hv, hb1, by rw [hb.block g (heap_lt hh)]; exact hh, rest⟩
/-- A row of another kind beside the one that is grown. -/
theorem own_beside {w w' : World} {b1 b2 : Nat} {t1 t2 : TypeId} {v u : Value} {n m s1 s2 : Nat} {xs ys : List Value} (h : w.ownsRow b1 t1 s1 v n xs) (k : w.ownsRow b2 t2 s2 u m ys) (ht : t1 ≠ t2) (hg : w.grownBy w' u.ownBlock) : w'.ownsRow b1 t1 s1 v n xs := by
  obtain ⟨hl, hr⟩ := h
  refine ⟨hl, ?_⟩
  rcases hr with hr | ⟨g, cap, cur, hv, hb1, hh, rest⟩
  · exact Or.inl hr
  · refine Or.inr ⟨g, cap, cur, hv, hb1, ?_, rest⟩
    rw [hg.block g (heap_lt hh) (fun e => ?_)]
    · exact hh
    · rcases k.2 with ⟨rfl, _⟩ | ⟨g', cap', cur', rfl, _, hh', _⟩
      · cases e
      · obtain rfl : g = g' := by simpa [Value.ownBlock] using e
        rw [hh] at hh'
        simp at hh'
        exact ht hh'.2
set_option maxRecDepth 100000 in
set_option maxHeartbeats 2000000 in
theorem lists_own (v : Value) (R : Nat) (vs : Nat → Value) (ns : Nat → Nat) (zs : Nat → Nat → Int) (w : World) (h : TabAt w v R vs ns zs) (hR : R ≤ 70) (hs : sumT ns R ≤ 600) :
    Calls Tryd.prog 18 #[v] w fun e w' => ∃ v' vs', e = .returned v' ∧ w'.ownsRow w.heap.size 22 1 v' R (rowV vs' R) ∧ (∀ i, i < R → w'.ownsRow w.heap.size 3 1 (vs' i) (ns i) (numCells (zs i) (ns i))) ∧ Below w.heap.size w w' := by
  rcases h with ⟨ad, cap, rfl, rfl⟩ | ⟨b, o, cap, rfl, h0, hr⟩
  · go_enter Tryd.func18, Tryd.ntmps18
    go_wp2_with fail
    refine wp_loop_rounds 1 ?_
    rw [rounds_succ]
    go_wp2_with fail
    go_ret
    exact ⟨_, vs, rfl, ⟨rfl, Or.inl ⟨rfl, rfl⟩⟩, (fun i hi => by omega), Below.refl _ _⟩
  · obtain ⟨i0, hi, hz0, hz1, hz2⟩ := info_parts Tryd.infoInts
    have HINF : Hid (Tryd.prog.info? 22 = some i0 ∧ i0.zero = some (.slice none 0 0) ∧ i0.size = 1 ∧ i0.bytes = 24) := ⟨hi, hz0, hz1, hz2⟩
    have HR := Hid.mk' hr
    have HN : Hid (∀ i, i < R → ns i ≤ 600) := fun i hi => by have h2 : sumT ns i + ns i ≤ sumT ns R := sumT_mono ns hi; omega
    clear hi hz0 hz1 hz2 hr
    go_enter Tryd.func18, Tryd.ntmps18
    go_wp2_with fail
    go_loopw [3, 4] (fun u i wr => ∃ (k : Nat) (us : Nat → Value), k ≤ R ∧ i = .int .i64 k ∧ Hid (wr.ownsRow w.heap.size 22 1 u k (rowV us k)) ∧ Hid (∀ i, i < k → wr.ownsRow w.heap.size 3 1 (us i) (ns i) (numCells (zs i) (ns i))) ∧ Hid (Below w.heap.size w wr)) (fun _ i _ => R - (intOf i).toNat)
    case atStart => exact ⟨0, vs, Nat.zero_le _, rfl, ⟨rfl, Or.inl ⟨rfl, rfl⟩⟩, (fun i hi => by omega), Below.refl _ _⟩
    case round =>
      obtain ⟨k, us, hk, rfl, HO, HNA, HB⟩ := hrel
      rcases Nat.lt_or_ge k R with h1 | h1
      · have hc := (HR.out k h1).1
        have hc' : wr.cell? ⟨b, o + k, none⟩ = some (vs k) := by rw [HB.out.cell (cell_lt hc)]; exact hc
        have hnums := (HR.out k h1).2.later HB.out
        have hints := ints_row (vs k) (ns k) (zs k) wr hnums (by have := HN.out k h1; omega)
        obtain ⟨ad1, cap1, hv1⟩ := hnums.form
        rw [hv1] at hc' hints
        have hkn : (k : Int) < (R : Int) := by omega
        clear hc hnums hv1
        go_wp2_with fail
        refine hints.mono ?_
        clear hints hc'
        rintro e w4 ⟨v4, rfl, hv4, hb4⟩
        have HO4 := Hid.mk' (own_past HO.out hb4)
        have HB4 := Hid.mk' (HB.out.trans (hb4.mono HB.out.size))
        have HA4 : Hid (∀ i, i < k → w4.ownsRow w.heap.size 3 1 (us i) (ns i) (numCells (zs i) (ns i))) := fun i hi => own_past (HNA.out i hi) hb4
        have HV4 : Hid (w4.ownsRow w.heap.size 3 1 v4 (ns k) (numCells (zs k) (ns k))) := hv4.mono HB.out.size
        obtain ⟨ad4, cap4, rfl, _⟩ := row_shape hv4
        have hz4 := HB4.out.size
        clear hv4 hb4
        go_wp2_with (at_builtin; go_must (refine wpList_append_lies _ rfl _ _ _ rfl w.heap.size 22 i0 _ 1 24 Tryd.underlying41 HINF.out.1 HINF.out.2.1 HINF.out.2.2.1 HINF.out.2.2.2 rfl (by omega) u3 _ _ rfl (HO4.out.alloc _) ⟨w4.heap.size, 0, none⟩ 1 1 [.slice ad4 (ns k) cap4] rfl rfl (one_new _ _ _) (by simp [Value.oneCell']) (by omega) (by unfold maxLen; omega) (by omega) (by simp; omega) _ rfl ?_; intro g' cap2 w5 hown5 hgrow5 hat5 hlt5; have HO5 := Hid.mk' hown5; have HG5 := Hid.mk' hgrow5; clear hown5 hgrow5 hat5))
        refine ⟨⟨k + 1, fun i => if i = k then .slice ad4 (ns k) cap4 else us i, h1, by go_num, ?_, fun i hi => ?_, below_push HB4.out HO4.out HG5.out⟩, by simp [intOf]; omega⟩
        · rw [← rowV_push]
          exact HO5
        · show World.ownsRow _ _ _ _ _ _ _
          dsimp only
          by_cases hik : i = k
          · subst hik
            rw [if_pos rfl]
            exact own_beside (own_past HV4.out ((Below.refl _ _).alloc (Nat.le_refl _) _)) (HO4.out.alloc _) (by decide) HG5.out
          · rw [if_neg hik]
            exact own_beside (own_past (HA4.out i (by omega)) ((Below.refl _ _).alloc (Nat.le_refl _) _)) (HO4.out.alloc _) (by decide) HG5.out
      · obtain rfl : k = R := by omega
        go_wp2_with fail
        go_ret
        exact ⟨_, us, rfl, HO.out, HNA.out, HB.out⟩
theorem lists_any (v : Value) (R : Nat) (vs : Nat → Value) (ns : Nat → Nat) (zs : Nat → Nat → Int) (w : World) (h : TabAt w v R vs ns zs) (hR : R ≤ 70) (hs : sumT ns R ≤ 600) :
    Calls Tryd.prog 18 #[v] w fun e w' => ∃ v' vs', e = .returned v' ∧ TabAt w' v' R vs' ns zs ∧ Below w.heap.size w w' := by
  refine (lists_own v R vs ns zs w h hR hs).mono ?_
  rintro e w' ⟨v', us, rfl, h1, h2, h3⟩
  exact ⟨_, us, rfl, tabAt_of_row h1 (fun i hi => numsAt_own (h2 i hi)), h3⟩

end Go.Proofs.YtgaamcmjonngjaaDoor
