/- secret.isRow: are all signs right, and none there twice? -/
import Derived.Test.YtdlbnolnkmhdcaaDoorWeights
import Derived.Test.YtdlbnolnkmhdcaaDoorFills
import Derived.WalkSpells
namespace Go.Proofs.YtdlbnolnkmhdcaaDoor
open Go.RowKit

theorem below_chS {w0 W W' : World} (h : Below w0.heap.size w0 W) (hb : Below W.heap.size W W') : Below w0.heap.size w0 W' := h.trans (hb.mono h.size)
/-- Is v among the first k? -/
def inB (z : Nat → Int) : Nat → Int → Bool
  | 0, _ => false
  | k + 1, v => inB z k v || decide (z k = v)
theorem inB_iff (z : Nat → Int) (v : Int) : ∀ k, inB z k v = true ↔ ∃ i, i < k ∧ z i = v
  | 0 => by simp [inB]
  | k + 1 => by
    simp only [inB, Bool.or_eq_true, decide_eq_true_eq, inB_iff z v k]
    constructor
    · rintro (⟨i, h1, h2⟩ | h)
      · exact ⟨i, by omega, h2⟩
      · exact ⟨k, by omega, h⟩
    · rintro ⟨i, h1, h2⟩
      rcases Nat.lt_or_ge i k with h | h
      · exact Or.inl ⟨i, h, h2⟩
      · obtain rfl : i = k := by omega
        exact Or.inr h2
/-- Are the first k right signs, none twice? -/
def rowB (z : Nat → Int) : Nat → Bool
  | 0 => true
  | k + 1 => rowB z k && (decide (0 ≤ z k ∧ z k < 16) && !inB z k (z k))
theorem rowB_bad {z : Nat → Int} {k n : Nat} (h : rowB z (k + 1) = false) (hk : k < n) : rowB z n = false := by
  induction n with
  | zero => omega
  | succ n ih =>
    rcases Nat.lt_or_ge k n with h1 | h1
    · simp [rowB, ih h1]
    · obtain rfl : k = n := by omega
      exact h
theorem rowB_out {z : Nat → Int} {k n : Nat} (h : ¬ (0 ≤ z k ∧ z k < 16)) (hk : k < n) : rowB z n = false := rowB_bad (k := k) (by simp only [rowB, decide_eq_false h]; simp) hk
theorem rowB_twice {z : Nat → Int} {k n : Nat} (h : inB z k (z k) = true) (hk : k < n) : rowB z n = false := rowB_bad (k := k) (by simp [rowB, h]) hk
theorem rowB_next {z : Nat → Int} {k : Nat} (h : rowB z k = true) (h1 : 0 ≤ z k ∧ z k < 16) (h2 : inB z k (z k) = false) : rowB z (k + 1) = true := by simp [rowB, h, h1, h2]
theorem rowB_iff (z : Nat → Int) : ∀ n, rowB z n = true ↔ ∀ k, k < n → (0 ≤ z k ∧ z k < 16) ∧ ∀ i, i < k → z i ≠ z k
  | 0 => by simp [rowB]
  | n + 1 => by
    have ih := rowB_iff z n
    constructor
    · intro h k hk
      simp only [rowB, Bool.and_eq_true, decide_eq_true_eq, Bool.not_eq_true'] at h
      rcases Nat.lt_or_ge k n with h1 | h1
      · exact ih.1 h.1 k h1
      · obtain rfl : k = n := by omega
        refine ⟨h.2.1, fun i hi e => ?_⟩
        have := (inB_iff z (z k) k).2 ⟨i, hi, e⟩
        rw [h.2.2] at this; cases this
    · intro h
      refine rowB_next (ih.2 fun k hk => h k (by omega)) (h n (by omega)).1 ?_
      cases hh : inB z n (z n) with
      | false => rfl
      | true =>
        obtain ⟨i, hi, e⟩ := (inB_iff z (z n) n).1 hh
        exact absurd e ((h n (by omega)).2 i hi)

/-- Which signs were seen. -/
structure Seen (w wr : World) (g : Nat) (z : Nat → Int) (k : Nat) : Prop where
  row : ∀ i, i < 16 → wr.cell? ⟨g, i, none⟩ = some (.bool (inB z k (i : Nat)))
  fz : ∀ i, i < 16 → wr.frozen? ⟨g, i, none⟩ = false
  below : Below w.heap.size w wr
  hg : w.heap.size ≤ g
theorem Seen.set {w wr : World} {g : Nat} {z : Nat → Int} {k s : Nat} (h : Seen w wr g z k) (hs : z k = (s : Int)) (h16 : s < 16) : Seen w (wr.setCell ⟨g, s, none⟩ (.bool true)) g z (k + 1) := by
  refine ⟨fun i hi => ?_, fun i hi => ?_, h.below.setCell h.hg _, h.hg⟩
  · by_cases hij : i = s
    · subst hij
      rw [World.cell?_setCell_same _ _ _ (h.row i hi)]
      simp [inB, hs]
    · rw [World.cell?_setCell_other _ _ _ _ (fun e => hij (by have := congrArg Addr.off e; simpa using this.symm)), h.row i hi]
      have : ¬ z k = (i : Int) := by omega
      simp [inB, this]
  · rw [World.frozen?_setCell]
    exact h.fz i hi
theorem seen_new (w : World) (z : Nat → Int) (t : TypeId) : Seen w (w.alloc (.cells (Array.replicate 16 (.bool false)) t)) w.heap.size z 0 := by
  refine ⟨fun i hi => ?_, fun i hi => World.frozen?_alloc_new w _ _ _, (Below.refl _ _).alloc (Nat.le_refl _) _, Nat.le_refl _⟩
  rw [World.cell?_alloc_at _ _ _ _ rfl]
  simp [inB, hi]

set_option maxRecDepth 100000 in
set_option maxHeartbeats 2000000 in
theorem isRow_some (b o cap n : Nat) (z : Nat → Int) (w : World) (h : RowAt w b o n z) (hn : n ≤ 1000000) :
    Calls Tryd.prog 35 #[.slice (some ⟨b, o, none⟩) n cap] w fun e w' => e = .returned (.bool (rowB z n)) ∧ Below w.heap.size w w' := by
  have HR := Hid.mk' (fun (W : World) (hb : Below w.heap.size w W) => h.later hb)
  have HS0 := Hid.mk' (seen_new w z 78)
  clear h
  go_enter Tryd.func35, Tryd.ntmps35
  go_wp2_with fail
  go_loopw [8] (fun i wr => ∃ k : Nat, k ≤ n ∧ i = .int .i64 k ∧ Hid (Seen w wr w.heap.size z k) ∧ Hid (rowB z k = true)) (fun i _ => n - (intOf i).toNat)
  case atStart => exact ⟨0, Nat.zero_le _, rfl, HS0, rfl⟩
  case round =>
    clear HS0
    obtain ⟨k, hk, rfl, HS, HT⟩ := hrel
    rcases Nat.lt_or_ge k n with h1 | h1
    · have hc := HR.out wr HS.out.below k h1
      have hkI : (k : Int) < (n : Int) := by omega
      have hk0 : (0 : Int) ≤ (k : Int) := by omega
      by_cases hx : 0 ≤ z k ∧ z k < 16
      · obtain ⟨s, hs⟩ : ∃ s : Nat, z k = (s : Int) := ⟨(z k).toNat, by omega⟩
        have h16 : s < 16 := by omega
        have hd := HS.out.row s h16
        have hf := HS.out.fz s h16
        have HN := Hid.mk' (HS.out.set hs h16)
        have HX : Hid (inB z k (z k) = true → rowB z n = false) := fun h => rowB_twice h h1
        have HY : Hid (inB z k (z k) = false → rowB z (k + 1) = true) := fun h => rowB_next HT.out hx h
        rw [hs] at hc HX HY
        have hsI : (s : Int) < 16 := by omega
        have hs0 : (0 : Int) ≤ (s : Int) := by omega
        clear hs hx
        cases hin : inB z k (s : Int) with
        | true =>
          rw [hin] at hd HX
          have HX' := Hid.mk' (HX.out rfl)
          clear HX HY hin HN
          go_wp2_with fail
          go_ret
          exact ⟨by rw [HX'.out]; rfl, HS.out.below⟩
        | false =>
          rw [hin] at hd HY
          have HY' := Hid.mk' (HY.out rfl)
          clear HX HY hin
          go_wp2_with fail
          go_roundw
          case rel => exact ⟨k + 1, h1, by go_num, HN, HY'⟩
          case measure => simp [intOf]; omega
      · have HX' := Hid.mk' (rowB_out hx h1)
        generalize z k = x at *
        clear HT
        by_cases hx0 : x < 0
        · go_wp2_with fail
          go_ret
          exact ⟨by rw [HX'.out]; rfl, HS.out.below⟩
        · have hx1 : 16 ≤ x := by omega
          have hx2 : 0 ≤ x := by omega
          clear hx0 hx
          go_wp2_with fail
          go_ret
          exact ⟨by rw [HX'.out]; rfl, HS.out.below⟩
    · obtain rfl : n = k := by omega
      go_wp2_with fail
      go_ret
      exact ⟨by rw [HT.out]; rfl, HS.out.below⟩
set_option maxRecDepth 100000 in
theorem isRow_none (ad : Option Addr) (cap : Nat) (z : Nat → Int) (w : World) :
    Calls Tryd.prog 35 #[.slice ad 0 cap] w fun e w' => e = .returned (.bool (rowB z 0)) ∧ Below w.heap.size w w' := by
  have HS0 := Hid.mk' (seen_new w z 78)
  go_enter Tryd.func35, Tryd.ntmps35
  go_wp2_with fail
  refine wp_loop_rounds 1 ?_
  rw [rounds_succ]
  go_wp2_with fail
  go_ret
  exact ⟨rfl, HS0.out.below⟩
theorem isRow_any (v : Value) (n : Nat) (z : Nat → Int) (w : World) (h : NumsAt w v n z) (hn : n ≤ 1000000) :
    Calls Tryd.prog 35 #[v] w fun e w' => e = .returned (.bool (rowB z n)) ∧ Below w.heap.size w w' := by
  rcases h with ⟨ad, cap, rfl, rfl⟩ | ⟨b, o, cap, rfl, h0, hr⟩
  · exact isRow_none ad cap z w
  · exact isRow_some b o cap n z w hr hn
end Go.Proofs.YtdlbnolnkmhdcaaDoor
