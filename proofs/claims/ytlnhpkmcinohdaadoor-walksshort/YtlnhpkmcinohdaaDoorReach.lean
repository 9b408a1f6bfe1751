/- chain.reach. -/
import Derived.Test.YtlnhpkmcinohdaaDoorGrid
import Derived.Test.YtlnhpkmcinohdaaDoorFromMath
namespace Go.Proofs.YtlnhpkmcinohdaaDoor
open Go.RowKit

theorem Tryd.infoBool : (Tryd.prog.info? 4).map (fun i => (i.zero, i.size, i.bytes)) = some (some (.bool false), 1, 1) := by kernel_rfl
/-- Is there a step? -/
def edge (zs : Nat → Nat → Int) (i k : Nat) : Bool := decide (0 < zs i k)
/-- While a round goes on. -/
def during (e : Nat → Nat → Bool) (m i k i' k' : Nat) : Bool := if i' < i ∨ (i' = i ∧ k' < k) then war e (m + 1) i' k' else war e m i' k'
theorem during_own (e : Nat → Nat → Bool) (m i k : Nat) : during e m i k i k = war e m i k := by unfold during; rw [if_neg (by omega)]
theorem during_row (e : Nat → Nat → Bool) (m i k i' : Nat) : during e m i k i' m = war e m i' m := by unfold during; split; exact war_row e m i'; rfl
theorem during_col (e : Nat → Nat → Bool) (m i k k' : Nat) : during e m i k m k' = war e m m k' := by unfold during; split; exact war_col e m k'; rfl
theorem during_next (e : Nat → Nat → Bool) (m i k i' k' : Nat) : during e m i (k + 1) i' k' = if i' = i ∧ k' = k then war e (m + 1) i k else during e m i k i' k' := by
  by_cases h : i' = i ∧ k' = k
  · obtain ⟨rfl, rfl⟩ := h
    rw [if_pos ⟨rfl, rfl⟩]; unfold during; rw [if_pos (by omega)]
  · rw [if_neg h]; unfold during
    by_cases h2 : i' < i ∨ (i' = i ∧ k' < k)
    · rw [if_pos h2, if_pos (by omega)]
    · rw [if_neg h2, if_neg (by omega)]
theorem during_start (e : Nat → Nat → Bool) (m i' k' : Nat) : during e m 0 0 i' k' = war e m i' k' := by unfold during; rw [if_neg (by omega)]
theorem during_line (e : Nat → Nat → Bool) (m n i i' k' : Nat) (hk : k' < n) : during e m i n i' k' = during e m (i + 1) 0 i' k' := by
  unfold during
  by_cases h : i' < i ∨ (i' = i ∧ k' < n)
  · rw [if_pos h, if_pos (by omega)]
  · rw [if_neg h, if_neg (by omega)]
theorem during_end (e : Nat → Nat → Bool) (m n i' k' : Nat) (hi : i' < n) : during e m n 0 i' k' = war e (m + 1) i' k' := by unfold during; rw [if_pos (by omega)]

theorem GridB.congr {w wr : World} {g n C m : Nat} {rb : Nat → Nat} {f f' : Nat → Nat → Value} (h : GridB w wr g n C m rb f) (he : ∀ i k, i < m → k < C → f' i k = f i k) : GridB w wr g n C m rb f' :=
  ⟨h.below, h.hg, h.outer, h.made, h.ofz, h.rge, h.inj, fun i hi => ⟨fun k hk => by rw [he i k hi hk]; exact (h.rows i hi).row k hk, (h.rows i hi).fz⟩⟩

theorem heap_of_row {w : World} {B e s b n cap k : Nat} {xs : List Value} (h : w.ownsRow B e s (.slice (some ⟨b, 0, none⟩) n cap) k xs) : b < w.heap.size := by
  obtain ⟨hl, hr⟩ := h
  rcases hr with ⟨hx, _⟩ | ⟨g', cap', cur, hv, hb, hh, _⟩
  · cases hx
  · obtain ⟨rfl, _⟩ : b = g' ∧ _ := by simpa using hv
    exact heap_lt hh

end Go.Proofs.YtlnhpkmcinohdaaDoor
