/- The document's TableError; the law's copies of tables. -/
import Derived.Test.YtiegobkbinojeaaDoorTab
namespace Go.Proofs.YtiegobkbinojeaaDoor
open Go.RowKit

theorem tabErr_many {R : Nat} {ns : Nat → Nat} {zs : Nat → Nat → Int} (h : 16 < R) : tabErr R ns zs = 2 := by unfold tabErr; exact if_pos h
theorem tabErr_long {R : Nat} {ns : Nat → Nat} {zs : Nat → Nat → Int} (h : ¬ 16 < R) (hl : longB ns R = true) : tabErr R ns zs = 2 := by unfold tabErr; rw [if_neg h, if_pos hl]
theorem tabErr_uneven {R : Nat} {ns : Nat → Nat} {zs : Nat → Nat → Int} (h : ¬ 16 < R) (hl : longB ns R = false) (hu : unevenB ns R = true) : tabErr R ns zs = 3 := by unfold tabErr; rw [if_neg h, if_neg (by rw [hl]; simp), if_pos hu]
theorem tabErr_even {R : Nat} {ns : Nat → Nat} {zs : Nat → Nat → Int} (h : ¬ 16 < R) (hl : longB ns R = false) (hu : unevenB ns R = false) : tabErr R ns zs = listErr (atF (flatL ns zs R)) (flatL ns zs R).length := by unfold tabErr; rw [if_neg h, if_neg (by rw [hl]; simp), if_neg (by rw [hu]; simp)]
theorem not_long {ns : Nat → Nat} : ∀ {n : Nat}, longB ns n = false → ∀ i, i < n → ns i ≤ 16
  | n, h, i, hi => by
    rcases Nat.lt_or_ge 16 (ns i) with h' | h'
    · rw [longB_mono hi h'] at h; cases h
    · exact h'
theorem sumT_le {ns : Nat → Nat} {B : Nat} : ∀ {n : Nat}, (∀ i, i < n → ns i ≤ B) → sumT ns n ≤ n * B
  | 0, _ => Nat.zero_le _
  | n + 1, h => by
    have h1 := sumT_le (ns := ns) (B := B) (n := n) (fun i hi => h i (by omega))
    have h2 := h n (by omega)
    show sumT ns n + ns n ≤ (n + 1) * B
    rw [Nat.add_mul]; omega
theorem sumT_small {ns : Nat → Nat} {R : Nat} (hR : ¬ 16 < R) (hl : longB ns R = false) : sumT ns R ≤ 256 := by
  have h1 := sumT_le (ns := ns) (B := 16) (not_long hl)
  have h2 : R * 16 ≤ 16 * 16 := Nat.mul_le_mul_right _ (by omega)
  omega

end Go.Proofs.YtiegobkbinojeaaDoor
