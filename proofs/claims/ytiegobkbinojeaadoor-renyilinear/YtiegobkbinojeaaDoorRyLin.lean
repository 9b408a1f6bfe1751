/- The linear families: one row. -/
import Derived.Test.YtiegobkbinojeaaDoorRyUni
import Derived.Test.YtiegobkbinojeaaDoorFills
namespace Go.Proofs.YtiegobkbinojeaaDoor
open Go.RowKit

/-- What the k-th function makes of a thing. -/
def linN (p a b x : Nat) : Nat := (a * (x / p) + b * (x % p)) % p
theorem lin_small {p a b x : Nat} (hp : 2 ≤ p) (hp7 : p ≤ 7) (ha : a < p) (hb : b < p) (hx : x < 16) : a * (x / p) ≤ 100 ∧ b * (x % p) ≤ 100 ∧ linN p a b x < p := by
  have h1 : x / p ≤ 8 := by
    have := Nat.div_le_div_left (a := x) hp (by omega); omega
  have h2 : x % p < p := Nat.mod_lt _ (by omega)
  have h3 : a * (x / p) ≤ 6 * 8 := Nat.mul_le_mul (by omega) h1
  have h4 : b * (x % p) ≤ 6 * 6 := Nat.mul_le_mul (by omega) (by omega)
  exact ⟨by omega, by omega, Nat.mod_lt _ (by omega)⟩
theorem wrap_sm (x : Nat) (h : x ≤ 100000) : wrap64 (x : Int) = (x : Int) := by
  unfold wrap64
  omega
theorem lin_val {p a b x : Nat} (hp : 2 ≤ p) (hp7 : p ≤ 7) (ha : a < p) (hb : b < p) (hx : x < 16) : (wrap64 (wrap64 ((a : Int) * wrap64 ((x : Int) / (p : Int))) + wrap64 ((b : Int) * ((x : Int) % (p : Int))))).tmod (p : Int) = ((linN p a b x : Nat) : Int) := by
  obtain ⟨h1, h2, h3⟩ := lin_small hp hp7 ha hb hx
  have h4 : x / p ≤ x := Nat.div_le_self _ _
  rw [show (x : Int) / (p : Int) = ((x / p : Nat) : Int) from rfl, show (x : Int) % (p : Int) = ((x % p : Nat) : Int) from rfl, wrap_sm _ (by omega), ← Int.natCast_mul, ← Int.natCast_mul, wrap_sm _ (by omega), wrap_sm _ (by omega), ← Int.natCast_add, wrap_sm _ (by omega), Int.tmod_eq_emod_of_nonneg (Int.natCast_nonneg _)]
  rfl
set_option maxRecDepth 100000 in
set_option maxHeartbeats 4000000 in
theorem linearRow_any (p a b n : Nat) (w : World) (hp : 2 ≤ p) (hp7 : p ≤ 7) (ha : a < p) (hb : b < p) (hn : n ≤ 16) :
    Calls Tryd.prog 32 #[.int .i64 (p : Int), .int .i64 (a : Int), .int .i64 (b : Int), .int .i64 (n : Int)] w fun e w' => ∃ g, e = .returned (.slice (some ⟨g, 0, none⟩) n n) ∧ w.heap.size ≤ g ∧ RowAt w' g 0 n (fun x => ((linN p a b x : Nat) : Int)) ∧ Below w.heap.size w w' := by
  obtain ⟨i0, hii, hz0, hz1, hz2⟩ := info_parts Tryd.infoInt
  have HINF : Hid (Tryd.prog.info? 3 = some i0 ∧ i0.zero = some (.int .i64 0) ∧ i0.size = 1 ∧ i0.bytes = 8) := ⟨hii, hz0, hz1, hz2⟩
  have HAB := Hid.mk' (And.intro ha hb)
  clear hii hz0 hz1 hz2 ha hb
  have hpI : ¬ (p : Int) = 0 := by omega
  have hpI0 : (0 : Int) ≤ (p : Int) := by omega
  go_enter Tryd.func32, Tryd.ntmps32
  go_wp2_with (at_make; go_must (refine wpList_make_full _ rfl _ _ _ rfl w.heap.size 3 i0 _ 1 Tryd.underlying39 HINF.out.1 HINF.out.2.1 HINF.out.2.2.1 .i64 .i64 _ _ n rfl rfl rfl rfl (by rw [HINF.out.2.2.2]; omega) (by unfold maxLen; omega) (Nat.le_refl _) ?_; intro w3 hown3 hgrow3; have HF3 := Hid.mk' (fills_made hown3 (made_zero n) hgrow3); clear hown3 hgrow3))
  go_loopw [14] (fun t wr => ∃ (k : Nat) (f : Nat → Int), k ≤ n ∧ t = .int .i64 k ∧ Hid (∀ i, i < k → f i = ((linN p a b i : Nat) : Int)) ∧ Hid (Fills w wr w.heap.size n f)) (fun t _ => n - (intOf t).toNat)
  case atStart => exact ⟨0, _, Nat.zero_le _, rfl, fun i hi => by omega, HF3.out⟩
  case round =>
    clear HF3
    obtain ⟨k, f, hk, rfl, HFK, HF⟩ := hrel
    rcases Nat.lt_or_ge k n with h1 | h1
    · have hkI : (k : Int) < (n : Int) := by omega
      have hk0 : (0 : Int) ≤ (k : Int) := by omega
      have hfz := HF.out.fz k h1
      have hc := HF.out.row k h1
      rw [Nat.zero_add] at hfz hc
      go_wp2_with fail
      go_region
      go_wp2_with fail
      rw [lin_val hp hp7 HAB.out.1 HAB.out.2 (by omega)]
      exact ⟨⟨k + 1, _, h1, by go_num, fun i hi => by
        by_cases e : i = k
        · rw [if_pos e, e]
        · rw [if_neg e]; exact HFK.out i (by omega), (HF.out.set h1 ((linN p a b k : Nat) : Int) (fun i _ => rfl)).drew⟩, by simp [intOf]; omega⟩
    · obtain rfl : k = n := by omega
      have hkI : ¬ (k : Int) < (k : Int) := by omega
      go_wp2_with fail
      go_ret
      exact ⟨_, rfl, Nat.le_refl _, fun i hi => by
        have h2 := HF.out.row i hi
        rwa [HFK.out i hi] at h2, HF.out.below⟩
end Go.Proofs.YtiegobkbinojeaaDoor
