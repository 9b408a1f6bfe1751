/- The sum of two in its canonical form. -/
import Derived.Test.YtiecbconcdncmabDoorAddAny
import Derived.Test.YtiecbconcdncmabDoorGList
namespace Go.Proofs.YtiecbconcdncmabDoor

/-- The value of a sum: over the product of the denominators. -/
theorem sum_value {da db g G : Nat} {l t1 t2 : List (Int × Int)} (hg : g = Int.gcd (da : Int) (db : Int)) (hda : 0 < da) (hdb : 0 < db) (hr : Rising l) (hv : ∀ x, atL l x = atL t1 x * ((db / g : Nat) : Int) + atL t2 x * ((da / g : Nat) : Int)) (hG : gcdL ((da / g * db : Nat) : Int) (atL l) (l.map Prod.fst) l.length = G) :
    Canon (da / g * db / G) (overL G l) ∧ (((da / g * db : Nat) : Int) / (G : Int) = ((da / g * db / G : Nat) : Int)) ∧ (∀ x, atL (overL G l) x * ((da : Int) * (db : Int)) = (atL t1 x * (db : Int) + atL t2 x * (da : Int)) * ((da / g * db / G : Nat) : Int)) ∧ (Fits ((da / g * db : Nat) : Int) G l ↔ (da / g * db / G ≤ 1000000 ∧ ∀ e ∈ overL G l, e.2.natAbs ≤ 1099511627776)) := by
  have hgn : g = Nat.gcd da db := by rw [hg]; simp [Int.gcd]
  have hgp : 0 < g := by rw [hgn]; exact Nat.gcd_pos_of_pos_left _ hda
  obtain ⟨a', ha'⟩ : g ∣ da := by rw [hgn]; exact Nat.gcd_dvd_left _ _
  obtain ⟨b', hb'⟩ : g ∣ db := by rw [hgn]; exact Nat.gcd_dvd_right _ _
  have e1 : da / g = a' := by rw [ha', Nat.mul_div_cancel_left _ hgp]
  have e2 : db / g = b' := by rw [hb', Nat.mul_div_cancel_left _ hgp]
  have hD : 0 < da / g * db := Nat.mul_pos (Nat.div_pos (Nat.le_of_dvd hda ⟨a', ha'⟩) hgp) hdb
  obtain ⟨⟨d, hd⟩, hGp, hval, hcan⟩ := over_canon hD hr hG
  have e3 : da / g * db / G = d := by rw [hd, Nat.mul_div_cancel_left _ hGp]
  refine ⟨hcan, by simp, fun x => ?_, ?_⟩
  · have h1 := hv x
    rw [hval x, e1, e2] at h1
    rw [e3]
    rw [e1] at hd
    have h2 : (a' : Int) * (db : Int) = (G : Int) * (d : Int) := by rw [← Int.natCast_mul, hd, Int.natCast_mul]
    have h3 : (da : Int) = (g : Int) * (a' : Int) := by rw [ha', Int.natCast_mul]
    have h4 : (db : Int) = (g : Int) * (b' : Int) := by rw [hb', Int.natCast_mul]
    generalize atL (overL G l) x = T at *
    generalize atL t1 x = A at *
    generalize atL t2 x = B at *
    have h5 : T * ((da : Int) * (db : Int)) = T * ((g : Int) * ((a' : Int) * (db : Int))) := by rw [h3]; grind
    rw [h5, h2]
    have h6 : A * (db : Int) + B * (da : Int) = (g : Int) * ((G : Int) * T) := by rw [h1, h3, h4]; grind
    rw [h6]
    grind
  · unfold Fits
    constructor
    · rintro ⟨h1, h2⟩
      refine ⟨?_, fun e he => ?_⟩
      · have : ((da / g * db : Nat) : Int) / (G : Int) = ((da / g * db / G : Nat) : Int) := by simp
        rw [this] at h1
        omega
      · obtain ⟨f, hf, rfl⟩ := mem_over he
        exact h2 f hf
    · rintro ⟨h1, h2⟩
      refine ⟨?_, fun e he => ?_⟩
      · have : ((da / g * db : Nat) : Int) / (G : Int) = ((da / g * db / G : Nat) : Int) := by simp
        rw [this]
        omega
      · by_cases h0 : e.2.tdiv (G : Int) = 0
        · rw [h0]; decide
        · exact h2 (e.1, e.2.tdiv (G : Int)) (List.mem_filter.2 ⟨List.mem_map.2 ⟨e, he, rfl⟩, by simpa using h0⟩)
end Go.Proofs.YtiecbconcdncmabDoor
