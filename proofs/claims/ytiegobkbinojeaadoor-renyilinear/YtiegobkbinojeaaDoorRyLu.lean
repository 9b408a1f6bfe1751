/- The linear families are universal. -/
import Derived.Test.YtiegobkbinojeaaDoorRyLi
namespace Go.Proofs.YtiegobkbinojeaaDoor
open Go.RowKit

theorem uni2 : anyR (fun x => anyR (fun y => tooB 2 4 (linZ 2) x y) x) 4 = false := by kernel_rfl
theorem uni3 : anyR (fun x => anyR (fun y => tooB 3 9 (linZ 3) x y) x) 9 = false := by kernel_rfl
theorem uni5 : anyR (fun x => anyR (fun y => tooB 5 25 (linZ 5) x y) x) 16 = false := by kernel_rfl
theorem uni7 : anyR (fun x => anyR (fun y => tooB 7 49 (linZ 7) x y) x) 16 = false := by kernel_rfl
theorem any_less {f : Nat → Bool} {n k : Nat} (h : anyR f n = false) (hk : k ≤ n) : anyR f k = false := anyR_none (fun i hi => anyR_no h i (by omega))
theorem lin_uni {p n : Nat} (hp : p = 2 ∨ p = 3 ∨ p = 5 ∨ p = 7) (hn : n ≤ p * p) (hn16 : n ≤ 16) : uniB (p : Int) (p * p) n (linZ p) = true := by
  unfold uniB
  have h : anyR (fun x => anyR (fun y => tooB (p : Int) (p * p) (linZ p) x y) x) n = false := by
    rcases hp with rfl | rfl | rfl | rfl
    · exact any_less uni2 hn
    · exact any_less uni3 hn
    · exact any_less uni5 hn16
    · exact any_less uni7 hn16
  rw [h]; rfl
theorem longB_noR {ns : Nat → Nat} : ∀ {n : Nat}, (∀ i, i < n → ns i ≤ 16) → longB ns n = false
  | 0, _ => rfl
  | n + 1, h => by
    have h1 := longB_noR (n := n) (fun i hi => h i (by omega))
    have h2 := h n (by omega)
    unfold longB
    rw [h1]
    simp; omega
theorem lin_fam {p n : Nat} (hp : p = 2 ∨ p = 3 ∨ p = 5 ∨ p = 7) (hn0 : 0 < n) (hn16 : n ≤ 16) : famErr (p : Int) (p * p) (fun _ => n) (linZ p) = 0 := by
  have h27 : 2 ≤ p ∧ p ≤ 7 := by omega
  have hq : 4 ≤ p * p ∧ p * p ≤ 49 := by rcases hp with rfl | rfl | rfl | rfl <;> omega
  unfold famErr
  rw [if_neg (by omega), if_neg (by rw [longB_noR (fun i hi => hn16)]; decide), if_neg (by show ¬ (p * p = 0 ∨ n = 0); omega), if_neg]
  rw [anyR_none]
  · decide
  · intro i hi
    unfold fRow
    rw [decide_eq_false (by simp), Bool.false_or]
    unfold outB
    refine anyR_none (fun x hx => ?_)
    have hx' : x < n := hx
    have h1 := (lin_small (p := p) (a := i / p) (b := i % p) (x := x) h27.1 h27.2 (Nat.div_lt_of_lt_mul hi) (Nat.mod_lt _ (by omega)) (by omega)).2.2
    unfold offB
    rw [decide_eq_false (by show ¬ linZ p i x < 0; unfold linZ; omega), decide_eq_false (by show ¬ (p : Int) ≤ linZ p i x; unfold linZ; omega)]
    rfl
end Go.Proofs.YtiegobkbinojeaaDoor
