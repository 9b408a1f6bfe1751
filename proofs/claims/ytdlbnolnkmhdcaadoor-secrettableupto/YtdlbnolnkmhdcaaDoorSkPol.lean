/- A polynomial's values: from the highest power down, and by powers. Plain functions. -/
import Derived.Test.YtdlbnolnkmhdcaaDoorSkVA
namespace Go.Proofs.YtdlbnolnkmhdcaaDoor

/-- The powers of x, and the value, as the document reckons them. -/
def pwN (p x : Nat) : Nat → Nat
  | 0 => 1
  | k + 1 => pwN p x k * x % p
def valN (p : Nat) (c : Nat → Nat) (x : Nat) : Nat → Nat
  | 0 => 0
  | k + 1 => (valN p c x k + c k * pwN p x k) % p
def polZ (c : Nat → Nat) (x : Int) : Nat → Int
  | 0 => 0
  | k + 1 => polZ c x k + (c k : Int) * x ^ k
def horC (n : Nat) (c : Nat → Nat) (x : Int) : Nat → Int
  | 0 => 0
  | j + 1 => horC n c x j * x + (c (n - 1 - j) : Int)
theorem horC_pol (n : Nat) (c : Nat → Nat) (x : Int) : ∀ j, j ≤ n → polZ c x n = polZ c x (n - j) + x ^ (n - j) * horC n c x j
  | 0, _ => by simp [horC]
  | j + 1, h => by
    have ih := horC_pol n c x j (by omega)
    rw [ih, show n - j = (n - 1 - j) + 1 by omega, show n - (j + 1) = n - 1 - j by omega]
    simp only [polZ, horC]
    grind
theorem pwN_lt {p x : Nat} (hp : 1 < p) : ∀ k, pwN p x k < p
  | 0 => hp
  | _ + 1 => Nat.mod_lt _ (by omega)
theorem valN_lt {p : Nat} {c : Nat → Nat} {x : Nat} (hp : 0 < p) : ∀ k, valN p c x k < p
  | 0 => hp
  | _ + 1 => Nat.mod_lt _ hp
theorem mo_cast (p a : Nat) : Mo (p : Int) ((a % p : Nat) : Int) (a : Int) := by
  rw [Int.natCast_emod]; exact Mo.emod _ _
theorem pwN_mo (p x : Nat) : ∀ k, Mo (p : Int) (pwN p x k : Int) ((x : Int) ^ k)
  | 0 => Mo.of (by simp [pwN])
  | k + 1 => by
    have ih := (pwN_mo p x k).mul (Mo.refl (p : Int) (x : Int))
    refine (mo_cast p _).trans (Mo.trans (Mo.of (Int.natCast_mul _ _)) (ih.trans (Mo.of (by grind))))
theorem valN_mo (p : Nat) (c : Nat → Nat) (x : Nat) : ∀ k, Mo (p : Int) (valN p c x k : Int) (polZ c (x : Int) k)
  | 0 => Mo.of rfl
  | k + 1 => by
    have h1 := (valN_mo p c x k).add ((Mo.refl (p : Int) (c k : Int)).mul (pwN_mo p x k))
    exact (mo_cast p _).trans (Mo.trans (Mo.of (by rw [Int.natCast_add, Int.natCast_mul])) h1)
theorem folV_mo (p x n : Nat) (c : Nat → Nat) : ∀ j, Mo (p : Int) (folV p x n c (List.range j) : Int) (horC n c (x : Int) j)
  | 0 => Mo.of rfl
  | j + 1 => by
    rw [List.range_succ, folV_snoc]
    have h1 := ((folV_mo p x n c j).mul (Mo.refl (p : Int) (x : Int))).add (Mo.refl (p : Int) (c (n - 1 - j) : Int))
    exact (mo_cast p _).trans (Mo.trans (Mo.of (by rw [Int.natCast_add, Int.natCast_mul])) h1)
theorem folV_pol (p x n : Nat) (c : Nat → Nat) : Mo (p : Int) (folV p x n c (List.range n) : Int) (polZ c (x : Int) n) := by
  refine (folV_mo p x n c n).trans (Mo.of ?_)
  rw [horC_pol n c (x : Int) n (Nat.le_refl _)]
  simp [polZ]
/-- Both ways come to the same. -/
theorem fol_val {p x n : Nat} {c : Nat → Nat} (hp : 0 < p) : folV p x n c (List.range n) = valN p c x n := by
  have h := ((folV_pol p x n c).trans (valN_mo p c x n).symm).exact ⟨by omega, by have := folV_lt (x := x) (n := n) (c := c) hp (List.range n); omega⟩ ⟨by omega, by have := valN_lt (c := c) (x := x) hp n; omega⟩
  omega
theorem polZ_pol (p : Int) (c : Nat → Nat) : ∀ n, Pol p n (fun x => polZ c x n)
  | 0 => fun _ => Mo.refl _ _
  | n + 1 => ((polZ_pol p c n).more.add ((Pol.pow n).scale (c n : Int))).same fun _ => Mo.refl _ _
theorem polZ_zero (c : Nat → Nat) : ∀ n, 0 < n → polZ c 0 n = (c 0 : Int)
  | 0, h => by omega
  | 1, _ => by simp [polZ]
  | n + 2, _ => by
    have ih := polZ_zero c (n + 1) (by omega)
    have e : polZ c 0 (n + 2) = polZ c 0 (n + 1) + (c (n + 1) : Int) * 0 ^ (n + 1) := rfl
    rw [e, ih, Int.zero_pow (by omega)]
    omega
end Go.Proofs.YtdlbnolnkmhdcaaDoor
