/- The sides of what rows tell of columns; entropies of a table, held against each other. -/
import Derived.Test.YtdafknhbiffaoaaDoorPackB
import Derived.Test.YtdafknhbiffaoaaDoorPackE
import Derived.Test.YtdafknhbiffaoaaDoorPackC
import Derived.Test.YtdafknhbiffaoaaDoorPackD
import Derived.Test.YtdafknhbiffaoaaDoorRows
import Derived.Test.YtdafknhbiffaoaaDoorErrs
import Derived.ChangeSame
import Derived.ChangeVars
import Derived.JoinedOf
import Derived.LaidLaws
import Derived.LaidHandle
import Derived.LaidMore
import Derived.Stop.Joined
import Derived.Lib.LaidTab
import Derived.Lay
import Derived.Test.YtdafknhbiffaoaaDoorInts
import Derived.Test.YtdafknhbiffaoaaDoorCards
import Derived.Test.YtdafknhbiffaoaaDoorTie
import Derived.SevenTiedAt
import Derived.ProofKit
import Derived.OpenShut
import Derived.ChangeOld
import Derived.Lib.SmallJoins
import Derived.Deep.Matrix
namespace Go.Proofs.YtdafknhbiffaoaaDoor
open Go.RowKit

/-- It speaks of primes alone. -/
def Supp (f : Int → Int) : Prop := ∀ x, f x ≠ 0 → 2 ≤ x ∧ x ≤ 4096 ∧ Pr x.toNat
theorem supp_term (c : Int) (m : Nat) (h : c ≠ 0 → 0 < m ∧ m ≤ 4096) : Supp fun x => c * multI x m := fun x hx => by
  dsimp only at hx
  have h1 : c ≠ 0 := fun e => hx (by rw [e]; simp)
  have h2 : multI x m ≠ 0 := fun e => hx (by rw [e]; simp)
  obtain ⟨a1, a2, a3⟩ := multI_support (h h1).1 h2
  have := (h h1).2
  exact ⟨a2, by omega, a1⟩
theorem Supp.add {f g : Int → Int} (hf : Supp f) (hg : Supp g) : Supp fun x => f x + g x := fun x hx => by
  by_cases h : f x = 0
  · exact hg x (fun e => hx (by dsimp only; rw [h, e]; rfl))
  · exact hf x h
theorem Supp.sub {f g : Int → Int} (hf : Supp f) (hg : Supp g) : Supp fun x => f x - g x := fun x hx => by
  by_cases h : f x = 0
  · exact hg x (fun e => hx (by dsimp only; rw [h, e]; rfl))
  · exact hf x h
theorem supp_sum {F : Nat → Int → Int} : ∀ {n : Nat}, (∀ i, i < n → Supp (F i)) → Supp fun x => sumN (fun i => F i x) n
  | 0, _ => fun x hx => absurd rfl hx
  | n + 1, h => (supp_sum fun i hi => h i (by omega)).add (h n (by omega))
theorem sumN_zero : ∀ n, sumN (fun _ => 0) n = 0
  | 0 => rfl
  | n + 1 => by simp only [sumN]; rw [sumN_zero n]; rfl
theorem sumN_plus (f g : Nat → Int) : ∀ n, sumN (fun i => f i + g i) n = sumN f n + sumN g n
  | 0 => rfl
  | n + 1 => by simp only [sumN]; rw [sumN_plus f g n]; omega
theorem sumN_less (f g : Nat → Int) : ∀ n, sumN (fun i => f i - g i) n = sumN f n - sumN g n
  | 0 => rfl
  | n + 1 => by simp only [sumN]; rw [sumN_less f g n]; omega
theorem sumN_times (k : Int) (f : Nat → Int) : ∀ n, sumN (fun i => f i * k) n = sumN f n * k
  | 0 => by simp [sumN]
  | n + 1 => by simp only [sumN]; rw [sumN_times k f n, Int.add_mul]
theorem sumN_swap (F : Nat → Nat → Int) (C : Nat) : ∀ R, sumN (fun i => sumN (fun j => F i j) C) R = sumN (fun j => sumN (fun i => F i j) R) C
  | 0 => by simp only [sumN]; rw [sumN_zero]
  | R + 1 => by
    simp only [sumN]
    rw [sumN_swap F C R, ← sumN_plus]
/-- The columns' entropy by places. -/
theorem ent_cols (zs : Nat → Nat → Int) (R C N : Nat) (x : Int) : sumN (entV (colV zs R) N x) C = sumN (fun i => sumN (fun j => zs i j * (multI x N - multI x (colV zs R j).toNat)) C) R := by
  rw [sumN_swap]
  refine sumN_congr fun j _ => ?_
  rw [sumN_times]
  unfold entV
  show colV zs R j * _ - colV zs R j * _ = colV zs R j * _
  rw [Int.mul_sub]
/-- What is known of the columns less what is told if the row is known is what rows tell. -/
theorem less_told {R N : Nat} {ns : Nat → Nat} {zs : Nat → Nat → Int} (h : OkT R ns zs N) (x : Int) : sumN (entV (colV zs R) N x) (ns 0) - sumN (givV ns zs x) R = sumN (fun i => sumN (mutV (zs i) (rowSum ns zs i) (colV zs R) N x) (ns 0)) R := by
  rw [ent_cols, ← sumN_less]
  refine sumN_congr fun i hi => ?_
  unfold givV
  rw [h.even i hi, ← sumN_less]
  refine sumN_congr fun j _ => ?_
  unfold entV mutV rowSum
  rw [h.even i hi]
  grind
theorem mult_prod1 {x : Nat} (hx : Pr x) {a b : Nat → Nat} : ∀ {n : Nat}, (∀ i, i < n → 0 < a i → 0 < b i) → mult x (prodA (fun i => b i ^ a i) n) = sumA (fun i => a i * mult x (b i)) n ∧ 0 < prodA (fun i => b i ^ a i) n
  | 0, _ => ⟨by simp only [prodA, sumA]; exact mult_one hx.1, by simp [prodA]⟩
  | n + 1, h => by
    obtain ⟨h1, h2⟩ := mult_prod1 hx (n := n) (fun i hi => h i (by omega))
    have h3 : mult x (b n ^ a n) = a n * mult x (b n) ∧ 0 < b n ^ a n := by
      rcases Nat.eq_zero_or_pos (a n) with h0 | h0
      · rw [h0, Nat.pow_zero, Nat.zero_mul]
        exact ⟨mult_one hx.1, by omega⟩
      · exact ⟨mult_power hx (h n (by omega) h0) _, Nat.pow_pos (h n (by omega) h0)⟩
    simp only [prodA, sumA]
    exact ⟨by rw [mult_mul hx _ _ h2 h3.2, h1, h3.1], Nat.mul_pos h2 h3.2⟩
theorem mult_prod2 {x : Nat} (hx : Pr x) {a b : Nat → Nat → Nat} {C : Nat} : ∀ {R : Nat}, (∀ i, i < R → ∀ j, j < C → 0 < a i j → 0 < b i j) → mult x (prodA (fun i => prodA (fun j => b i j ^ a i j) C) R) = sumA (fun i => sumA (fun j => a i j * mult x (b i j)) C) R ∧ 0 < prodA (fun i => prodA (fun j => b i j ^ a i j) C) R
  | 0, _ => ⟨by simp only [prodA, sumA]; exact mult_one hx.1, by simp [prodA]⟩
  | R + 1, h => by
    obtain ⟨h1, h2⟩ := mult_prod2 hx (R := R) (fun i hi => h i (by omega))
    obtain ⟨h3, h4⟩ := mult_prod1 hx (fun j hj => h R (by omega) j hj)
    simp only [prodA, sumA]
    exact ⟨by rw [mult_mul hx _ _ h2 h4, h1, h3], Nat.mul_pos h2 h4⟩
theorem sumN_nat2 {z : Nat → Int} {a : Nat → Nat} : ∀ {n : Nat}, (∀ i, i < n → z i = (a i : Int)) → sumN z n = (sumA a n : Int)
  | 0, _ => rfl
  | n + 1, h => by
    simp only [sumN, sumA]
    rw [sumN_nat2 (n := n) (fun i hi => h i (by omega)), h n (by omega)]
    simp
/-- The sides of what rows tell. -/
theorem told_sides {R N : Nat} {ns : Nat → Nat} {zs : Nat → Nat → Int} (h : OkT R ns zs N) :
    ∃ U D : Nat, 0 < U ∧ 0 < D ∧ D ≤ U ∧ ∀ x : Nat, Pr x → sumN (fun i => sumN (mutV (zs i) (rowSum ns zs i) (colV zs R) N (x : Int)) (ns 0)) R = (mult x U : Int) - (mult x D : Int) := by
  obtain ⟨a, ha⟩ : ∃ a : Nat → Nat → Nat, ∀ i, i < R → ∀ j, j < ns 0 → zs i j = (a i j : Int) := ⟨fun i j => (zs i j).toNat, fun i hi j hj => by have := h.nn i hi j (by rw [h.even i hi]; exact hj); dsimp only; omega⟩
  have hr : ∀ i, i < R → rowSum ns zs i = (sumA (a i) (ns 0) : Int) := fun i hi => by
    unfold rowSum
    rw [h.even i hi]
    exact sumN_nat2 (fun j hj => ha i hi j hj)
  have hc : ∀ j, j < ns 0 → colV zs R j = (sumA (fun i => a i j) R : Int) := fun j hj => sumN_nat2 (fun i hi => ha i hi j hj)
  have hN : N = sumA (fun i => sumA (a i) (ns 0)) R := by
    have h1 := h.tot
    have h2 : sumN (fun i => sumN (zs i) (ns i)) R = (sumA (fun i => sumA (a i) (ns 0)) R : Int) := sumN_nat2 (fun i hi => hr i hi)
    omega
  have hN0 : 0 < N := h.n1
  have hle : ∀ i, i < R → ∀ j, j < ns 0 → a i j ≤ sumA (a i) (ns 0) ∧ a i j ≤ sumA (fun k => a k j) R := fun i hi j hj => ⟨sumA_ge (a i) hj, sumA_ge (fun k => a k j) hi⟩
  have h2 : Pr 2 := ⟨by omega, fun d hd hdd => by have := Nat.mul_le_mul hd hd; omega⟩
  have p1 : ∀ i, i < R → ∀ j, j < ns 0 → 0 < a i j → 0 < a i j := fun _ _ _ _ h => h
  have p2 : ∀ i, i < R → ∀ j, j < ns 0 → 0 < a i j → 0 < sumA (a i) (ns 0) * sumA (fun k => a k j) R := fun i hi j hj h0 => by
    have := hle i hi j hj
    exact Nat.mul_pos (by omega) (by omega)
  have u2 := (mult_prod2 h2 (b := a) p1).2
  have d2 := (mult_prod2 h2 (a := a) (b := fun i j => sumA (a i) (ns 0) * sumA (fun k => a k j) R) p2).2
  refine ⟨N ^ N * prodA (fun i => prodA (fun j => a i j ^ a i j) (ns 0)) R, prodA (fun i => prodA (fun j => (sumA (a i) (ns 0) * sumA (fun k => a k j) R) ^ a i j) (ns 0)) R, Nat.mul_pos (Nat.pow_pos hN0) u2, d2, told_le a (ns 0) R N hN hN0, fun x hx => ?_⟩
  rw [mult_mul hx _ _ (Nat.pow_pos hN0) u2, mult_power hx hN0, (mult_prod2 hx (b := a) p1).1, (mult_prod2 hx (a := a) (b := fun i j => sumA (a i) (ns 0) * sumA (fun k => a k j) R) p2).1]
  have e : ∀ m, multI (x : Int) m = (mult x m : Int) := fun m => by rw [multI_pr (by simpa using hx)]; simp
  have key : sumN (fun i => sumN (mutV (zs i) (rowSum ns zs i) (colV zs R) N (x : Int)) (ns 0)) R = sumN (fun i => sumN (fun j => ((a i j * mult x (a i j) : Nat) : Int) + ((a i j : Nat) : Int) * (mult x N : Int) - ((a i j * mult x (sumA (a i) (ns 0) * sumA (fun k => a k j) R) : Nat) : Int)) (ns 0)) R := by
    refine sumN_congr fun i hi => sumN_congr fun j hj => ?_
    unfold mutV
    rw [ha i hi j hj, hr i hi, hc j hj]
    simp only [Int.toNat_natCast, e]
    rcases Nat.eq_zero_or_pos (a i j) with h0 | h0
    · rw [h0]; simp
    · have := hle i hi j hj
      rw [mult_mul hx _ _ (show 0 < sumA (a i) (ns 0) by omega) (show 0 < sumA (fun k => a k j) R by omega)]
      simp only [Int.natCast_mul, Int.natCast_add]
      grind
  rw [key]
  have split3 : ∀ i, sumN (fun j => ((a i j * mult x (a i j) : Nat) : Int) + ((a i j : Nat) : Int) * (mult x N : Int) - ((a i j * mult x (sumA (a i) (ns 0) * sumA (fun k => a k j) R) : Nat) : Int)) (ns 0) = ((sumA (fun j => a i j * mult x (a i j)) (ns 0) : Nat) : Int) + ((sumA (a i) (ns 0) : Nat) : Int) * (mult x N : Int) - ((sumA (fun j => a i j * mult x (sumA (a i) (ns 0) * sumA (fun k => a k j) R)) (ns 0) : Nat) : Int) := fun i => by
    rw [sumN_less, sumN_plus, sumN_times]
    rw [sumN_nat2 (z := fun j => ((a i j * mult x (a i j) : Nat) : Int)) (fun _ _ => rfl), sumN_nat2 (z := fun j => ((a i j : Nat) : Int)) (fun _ _ => rfl), sumN_nat2 (z := fun j => ((a i j * mult x (sumA (a i) (ns 0) * sumA (fun k => a k j) R) : Nat) : Int)) (fun _ _ => rfl)]
  rw [sumN_congr (fun i _ => split3 i), sumN_less, sumN_plus, sumN_times]
  rw [sumN_nat2 (z := fun i => ((sumA (fun j => a i j * mult x (a i j)) (ns 0) : Nat) : Int)) (fun _ _ => rfl), sumN_nat2 (z := fun i => ((sumA (a i) (ns 0) : Nat) : Int)) (fun _ _ => rfl), sumN_nat2 (z := fun i => ((sumA (fun j => a i j * mult x (sumA (a i) (ns 0) * sumA (fun k => a k j) R)) (ns 0) : Nat) : Int)) (fun _ _ => rfl), ← hN]
  simp only [Int.natCast_add, Int.natCast_mul]
  omega
theorem OkT.pos {R N : Nat} {ns : Nat → Nat} {zs : Nat → Nat → Int} (h : OkT R ns zs N) {i j : Nat} (hi : i < R) (hj : j < ns 0) : zs i j ≠ 0 → (0 < (zs i j).toNat ∧ (zs i j).toNat ≤ 4096) ∧ (0 < (rowSum ns zs i).toNat ∧ (rowSum ns zs i).toNat ≤ 4096) ∧ (0 < (colV zs R j).toNat ∧ (colV zs R j).toNat ≤ 4096) := fun h0 => by
  have h1 := h.cell hi (by rw [h.even i hi]; exact hj)
  have h2 := h.row hi
  have h3 := h.col (Nat.le_refl R) hj
  have h4 := sumN_ge (z := zs i) (n := ns i) (i := j) (fun k hk => h.nn i hi k hk) (by rw [h.even i hi]; exact hj)
  have h5 := sumN_ge (z := fun k => zs k j) (n := R) (i := i) (fun k hk => h.nn k hk j (by rw [h.even k hk]; exact hj)) hi
  have h6 := h.n6
  unfold rowSum
  have h7 : zs i j ≤ colV zs R j := h5
  omega
theorem ent_prim {R N : Nat} {ns : Nat → Nat} {zs : Nat → Nat → Int} (h : OkT R ns zs N) : Prim fun x => sumN (entV (colV zs R) N x) (ns 0) := by
  refine ⟨fun x => ent_bound (fun j hj => h.col (Nat.le_refl R) hj) h.n6 (by have := h.c16; omega) x, ?_⟩
  refine supp_sum (F := fun j x => entV (colV zs R) N x j) fun j hj => ?_
  have hc := h.col (Nat.le_refl R) hj
  exact (supp_term _ N (fun _ => ⟨h.n1, h.n6⟩)).sub (supp_term _ _ (fun h0 => by omega))
theorem giv_prim {R N : Nat} {ns : Nat → Nat} {zs : Nat → Nat → Int} (h : OkT R ns zs N) : Prim fun x => sumN (givV ns zs x) R := by
  refine ⟨fun x => giv_bound h x, ?_⟩
  refine supp_sum (F := fun i x => givV ns zs x i) fun i hi => ?_
  refine supp_sum (F := fun j x => entV (zs i) (sumN (zs i) (ns i)).toNat x j) fun j hj => ?_
  have hp := h.pos hi (j := j) (by rw [← h.even i hi]; exact hj)
  exact (supp_term _ _ (fun h0 => (hp h0).2.1)).sub (supp_term _ _ (fun h0 => (hp h0).1))
theorem mut_prim {R N : Nat} {ns : Nat → Nat} {zs : Nat → Nat → Int} (h : OkT R ns zs N) : Prim fun x => sumN (fun i => sumN (mutV (zs i) (rowSum ns zs i) (colV zs R) N x) (ns 0)) R := by
  refine ⟨fun x => ?_, ?_⟩
  · have h1 := sumN_bound (f := fun i => sumN (mutV (zs i) (rowSum ns zs i) (colV zs R) N x) (ns 0)) (B := 6400000) (n := R) (fun i hi => by
      have h2 := sumN_bound (f := mutV (zs i) (rowSum ns zs i) (colV zs R) N x) (B := 400000) (n := ns 0) (fun j hj => mutV_le x (h.cell hi (by rw [h.even i hi]; exact hj)) (by have := h.row hi; have := h.n6; unfold rowSum; omega) (h.col (Nat.le_refl R) hj) h.n6)
      have : (ns 0 : Int) * 400000 ≤ 6400000 := by have := h.c16; omega
      omega)
    have : (R : Int) * 6400000 ≤ 102400000 := by have := h.r16; omega
    omega
  · refine supp_sum (F := fun i x => sumN (mutV (zs i) (rowSum ns zs i) (colV zs R) N x) (ns 0)) fun i hi => ?_
    refine supp_sum (F := fun j x => mutV (zs i) (rowSum ns zs i) (colV zs R) N x j) fun j hj => ?_
    have hp := h.pos hi hj
    refine (((supp_term _ _ (fun h0 => (hp h0).1)).add (supp_term _ N (fun _ => ⟨h.n1, h.n6⟩))).add (supp_term _ _ (fun h0 => ?_))).add (supp_term _ _ (fun h0 => ?_))
    · exact (hp (by omega)).2.1
    · exact (hp (by omega)).2.2
end Go.Proofs.YtdafknhbiffaoaaDoor

/- Sums of what is told of a table: the chain rule; logs.Add and SameLog of what is told of sums. -/
namespace Go.Proofs.YtdafknhbiffaoaaDoor
open Go.RowKit

theorem ent_primW {z : Nat → Int} {n N : Nat} (h : OkW z n) (hn : n ≤ 256) (hN : 1 ≤ N ∧ N ≤ 4096) : Prim fun x => sumN (entV z N x) n := by
  refine ⟨fun x => ent_bound (fun i hi => h.lt hi) hN.2 hn x, ?_⟩
  refine supp_sum (F := fun i x => entV z N x i) fun i hi => ?_
  have hc := h.lt hi
  exact (supp_term _ N (fun _ => hN)).sub (supp_term _ _ (fun h0 => by omega))
theorem ent_rows {R N : Nat} {ns : Nat → Nat} {zs : Nat → Nat → Int} (h : OkT R ns zs N) (x : Int) : sumN (entV (rowSum ns zs) N x) R = sumN (fun i => sumN (fun j => zs i j * (multI x N - multI x (rowSum ns zs i).toNat)) (ns 0)) R := by
  refine sumN_congr fun i hi => ?_
  rw [sumN_times]
  unfold entV
  have e : sumN (fun j => zs i j) (ns 0) = rowSum ns zs i := by unfold rowSum; rw [h.even i hi]
  rw [e, Int.mul_sub]
theorem ent_flat {R N n : Nat} {ns : Nat → Nat} {zs : Nat → Nat → Int} {L : List Int} (h : OkT R ns zs N) (hL : L = flatL ns zs R) (hn : L.length = n) (x : Int) : sumN (entV (atF L) N x) n = sumN (fun i => sumN (fun j => zs i j * multI x N - zs i j * multI x (zs i j).toNat) (ns 0)) R := by
  have h1 := sumN_map (fun z => z * multI x N - z * multI x z.toNat) L
  rw [hL, lsum_flat, ← hL, hn] at h1
  show sumN (fun i => atF L i * multI x N - atF L i * multI x (atF L i).toNat) n = _
  rw [h1]
  exact sumN_congr fun i hi => by rw [h.even i hi]
/-- The chain rule, by places. -/
theorem chain_one {R N n : Nat} {ns : Nat → Nat} {zs : Nat → Nat → Int} {L : List Int} (h : OkT R ns zs N) (hL : L = flatL ns zs R) (hn : L.length = n) (x : Int) : sumN (entV (rowSum ns zs) N x) R + sumN (givV ns zs x) R = sumN (entV (atF L) N x) n := by
  rw [ent_flat h hL hn, ent_rows h, ← sumN_plus]
  refine sumN_congr fun i hi => ?_
  unfold givV
  rw [h.even i hi, ← sumN_plus]
  refine sumN_congr fun j _ => ?_
  unfold entV rowSum
  rw [h.even i hi]
  grind
theorem chain_two {R N n : Nat} {ns : Nat → Nat} {zs : Nat → Nat → Int} {L : List Int} (h : OkT R ns zs N) (hL : L = flatL ns zs R) (hn : L.length = n) (x : Int) : sumN (entV (rowSum ns zs) N x) R + sumN (entV (colV zs R) N x) (ns 0) = sumN (fun i => sumN (mutV (zs i) (rowSum ns zs i) (colV zs R) N x) (ns 0)) R + sumN (entV (atF L) N x) n := by
  rw [ent_flat h hL hn, ent_rows h, ent_cols, ← sumN_plus, ← sumN_plus]
  refine sumN_congr fun i _ => ?_
  rw [← sumN_plus, ← sumN_plus]
  refine sumN_congr fun j _ => ?_
  unfold mutV
  grind
theorem chain_turned {R N : Nat} {ns : Nat → Nat} {zs : Nat → Nat → Int} (h : OkT R ns zs N) (x : Int) : sumN (fun i => sumN (mutV (zs i) (rowSum ns zs i) (colV zs R) N x) (ns 0)) R = sumN (fun j => sumN (mutV (fun i => zs i j) (rowSum (fun _ => R) (fun j i => zs i j) j) (colV (fun j i => zs i j) (ns 0)) N x) R) (ns 0) := by
  rw [sumN_swap]
  refine sumN_congr fun j _ => sumN_congr fun i hi => ?_
  have e1 : colV (fun j i => zs i j) (ns 0) i = rowSum ns zs i := by unfold colV rowSum; rw [h.even i hi]
  have e2 : rowSum (fun _ => R) (fun j i => zs i j) j = colV zs R j := rfl
  unfold mutV
  rw [e1, e2]
  grind
/-- The table turned over is right, too. -/
theorem okT_turned {R N : Nat} {ns : Nat → Nat} {zs : Nat → Nat → Int} (h : OkT R ns zs N) : OkT (ns 0) (fun _ => R) (fun j i => zs i j) N := by
  refine ⟨h.c0, h.c16, h.r0, h.r16, fun _ _ => rfl, fun j hj i hi => h.nn i hi j (by rw [h.even i hi]; exact hj), ?_, h.n1, h.n6⟩
  have h2 := h.tot
  have h3 : sumN (fun i => sumN (zs i) (ns i)) R = sumN (fun i => sumN (fun j => zs i j) (ns 0)) R := sumN_congr fun i hi => by rw [h.even i hi]
  rw [h3, sumN_swap] at h2
  exact h2
/-- A logarithm in its form, of a sum over M. -/
def FormBy (W : World) (M : Nat) (F : Int → Int) (d : Int) (v : Value) : Prop := ∃ (t : List (Int × Int)) (n : Nat), d = (n : Int) ∧ ListAt W v t ∧ Canon n t ∧ (∀ x, (M : Int) * atL t x = (n : Int) * F x) ∧ t.length ≤ 10000
theorem FormBy.later {W W' : World} {M : Nat} {F : Int → Int} {d : Int} {v : Value} (h : FormBy W M F d v) (hb : Below W.heap.size W W') : FormBy W' M F d v := by
  obtain ⟨t, n, h1, h2, h3⟩ := h
  exact ⟨t, n, h1, h2.later hb, h3⟩
theorem FormBy.slice {W : World} {M : Nat} {F : Int → Int} {d : Int} {v : Value} (h : FormBy W M F d v) : ∃ ad n cap, v = .slice ad n cap := by
  obtain ⟨t, n, _, h2, _⟩ := h
  exact ownAt_slice h2
theorem LogBy.formed {base M : Nat} {f : Int → Int} {w : World} {dn : Int} {v : Value} (h : LogBy base M f w dn v) (hM : 1 ≤ M) (hM6 : M ≤ 1000000) (hf : Prim f) : FormBy w M f dn v := by
  obtain ⟨t, d, G, rfl, hl, hn, hMG, hG, hv, hok⟩ := h.ok hM hM6 hf
  refine ⟨t, d, rfl, hl, hok.canon, fun x => ?_, by omega⟩
  rw [hv x, hMG]
  simp only [Int.natCast_mul]
  grind
theorem atL_over_any (F : Int → Int) : ∀ (t : List (Int × Int)) (x : Int), (∀ e ∈ t, e.1 ≠ x) ∧ atL (t.map fun e => (e.1, F e.1)) x = 0 ∨ atL (t.map fun e => (e.1, F e.1)) x = F x
  | [], x => Or.inl ⟨(fun e he => by cases he), rfl⟩
  | e :: r, x => by
    simp only [List.map_cons, atL]
    by_cases h : e.1 = x
    · refine Or.inr ?_
      simp [h]
    · rcases atL_over_any F r x with ⟨h1, h2⟩ | h1
      · refine Or.inl ⟨fun f hf => ?_, by simp [h, h2]⟩
        rcases List.mem_cons.1 hf with rfl | hf
        · exact h
        · exact h1 f hf
      · refine Or.inr ?_
        simp [h, h1]
/-- logs.Add of two that are told of sums over one number: it is in form. -/
theorem Add_by {M b1 b2 : Nat} {f1 f2 : Int → Int} {d1 d2 : Int} {v1 v2 : Value} (a : Nat → Addr) (w : World) (hE : Errs w a) (h1 : LogBy b1 M f1 w d1 v1) (h2 : LogBy b2 M f2 w d2 v2) (hM : 1 ≤ M) (hM6 : M ≤ 1000000) (p1 : Prim f1) (p2 : Prim f2) :
    Calls Tryd.prog 22 #[.agg #[.int .i64 d1, v1], .agg #[.int .i64 d2, v2]] w fun e w' => ∃ d v, e = .returned (.tuple #[.agg #[.int .i64 d, v], .nilIface]) ∧ FormBy w' M (fun x => f1 x + f2 x) d v ∧ Below w.heap.size w w' := by
  obtain ⟨t1, e1, G1, rfl, l1, n1, m1, g1, w1', o1⟩ := h1.ok hM hM6 p1
  obtain ⟨t2, e2, G2, rfl, l2, n2, m2, g2, w2', o2⟩ := h2.ok hM hM6 p2
  have q1 := listAt_log l1
  have q2 := listAt_log l2
  obtain ⟨ad1, cap1, rfl⟩ := q1.slice
  obtain ⟨ad2, cap2, rfl⟩ := q2.slice
  have pa : 0 < e1 := by have := o1.1; omega
  have pb : 0 < e2 := by have := o2.1; omega
  refine (Add_any e1 e2 ad1 ad2 cap1 cap2 t1 t2 a w hE q1 q2 o1 o2 (by omega) _ rfl).mono ?_
  rintro e w' ⟨⟨l, G, hr, hv, hG, hlen, hres⟩, hb⟩
  obtain ⟨s1, s2, s3, s4⟩ := sum_value rfl pa pb hr hv hG
  obtain ⟨t, ht⟩ : ∃ t, t = overL G l := ⟨_, rfl⟩
  obtain ⟨d, hd⟩ : ∃ d, d = e1 / Int.gcd (e1 : Int) (e2 : Int) * e2 / G := ⟨_, rfl⟩
  have hlt := length_over l G
  rw [← hd] at s1 s2 s3 s4
  rw [← ht] at s1 s3 s4 hlt
  have hval : ∀ x, (M : Int) * atL t x = (d : Int) * (f1 x + f2 x) := fun x => by
    have hx := s3 x
    rw [w1' x, w2' x]
    have k1 : (M : Int) = (G1 : Int) * (e1 : Int) := by rw [m1]; simp
    have k2 : (M : Int) = (G2 : Int) * (e2 : Int) := by rw [m2]; simp
    generalize atL t x = T at *
    generalize atL t1 x = A at *
    generalize atL t2 x = B at *
    refine Int.eq_of_mul_eq_mul_left (show (M : Int) ≠ 0 by omega) ?_
    have c1 : (M : Int) * ((M : Int) * T) = (G1 : Int) * (G2 : Int) * (T * ((e1 : Int) * (e2 : Int))) := by
      calc (M : Int) * ((M : Int) * T) = ((G1 : Int) * (e1 : Int)) * (((G2 : Int) * (e2 : Int)) * T) := by rw [← k1, ← k2]
        _ = _ := by grind
    rw [c1, hx]
    have c2 : (M : Int) * ((d : Int) * ((G1 : Int) * A + (G2 : Int) * B)) = (d : Int) * ((G1 : Int) * A * (M : Int) + (G2 : Int) * B * (M : Int)) := by grind
    rw [c2]
    have c3 : (G1 : Int) * A * (M : Int) = (G1 : Int) * A * ((G2 : Int) * (e2 : Int)) := by rw [← k2]
    have c4 : (G2 : Int) * B * (M : Int) = (G2 : Int) * B * ((G1 : Int) * (e1 : Int)) := by rw [← k1]
    rw [c3, c4]
    grind
  have hd0 : 0 < d := s1.pos
  have hdM : d ∣ M := canon_dvd (t' := t.map fun e => (e.1, f1 e.1 + f2 e.1)) s1 (fun x => by
    have hx := hval x
    rcases atL_over_any (fun y => f1 y + f2 y) t x with ⟨h3, h4⟩ | h4
    · rw [h4, atL_none h3]; simp
    · rw [h4]
      grind)
  obtain ⟨c, hc⟩ := hdM
  have hfit : d ≤ 1000000 ∧ ∀ e ∈ t, e.2.natAbs ≤ 1099511627776 := by
    refine ⟨Nat.le_trans (Nat.le_of_dvd hM ⟨c, hc⟩) hM6, fun e he => ?_⟩
    have hx := hval e.1
    rw [atL_mem s1.rise he] at hx
    have b1 := p1.le e.1
    have b2 := p2.le e.1
    have hc0 : 0 < c := by
      rcases Nat.eq_zero_or_pos c with h0 | h0
      · rw [h0] at hc; omega
      · exact h0
    have h5 : (c : Int) * e.2 = f1 e.1 + f2 e.1 := by
      refine Int.eq_of_mul_eq_mul_left (show (d : Int) ≠ 0 by omega) ?_
      rw [← hx, hc]
      simp only [Int.natCast_mul]
      grind
    have h6 : e.2.natAbs ≤ (f1 e.1 + f2 e.1).natAbs := by
      rw [← h5, Int.natAbs_mul, Int.natAbs_natCast]
      exact Nat.le_mul_of_pos_left _ hc0
    omega
  rcases hres with ⟨_, v, rfl, hlist⟩ | ⟨hf, _⟩
  · rw [← ht] at hlist
    exact ⟨_, v, by rw [s2], ⟨t, d, rfl, hlist, s1, hval, by omega⟩, hb⟩
  · exact absurd (s4.2 hfit) hf
end Go.Proofs.YtdafknhbiffaoaaDoor

/- SampleBound: the law. -/
namespace Go.Proofs.YtdafknhbiffaoaaDoor
open Go.RowKit

theorem flT_flM (x : Nat → Nat) (n D : Nat) : ∀ k, flT x n D k = flM x D (n + 1) k
  | 0 => rfl
  | k + 1 => by rw [flT, flM, flT_flM x n D k]
theorem mult_prdW {q : Nat} (hq : Pr q) (x : Nat → Nat) : ∀ m, mult q (prdW x m) = sumA' (fun i => x i * mult q (x i)) m
  | 0 => mult_one hq.1
  | m + 1 => by
    have hp : 0 < x m ^ x m := by
      rcases Nat.eq_zero_or_pos (x m) with e | e
      · rw [e]; decide
      · exact Nat.pow_pos e
    rw [prdW, mult_mul hq _ _ (prdW_pos x m) hp, mult_prdW hq x m, sumA']
    congr 1
    rcases Nat.eq_zero_or_pos (x m) with e | e
    · rw [e, Nat.zero_mul]; exact mult_one hq.1
    · exact mult_power hq e _
theorem ent_sum {z : Nat → Int} {x : Nat → Nat} {S q : Nat} (hq : Pr q) : ∀ {n : Nat}, (∀ i, i < n → z i = (x i : Int)) → sumN (entV z S (q : Int)) n = (sumX x n : Int) * (mult q S : Int) - (sumA' (fun i => x i * mult q (x i)) n : Int)
  | 0, _ => by simp [sumN, sumX, sumA']
  | n + 1, h => by
    have hm : ∀ m, multI (q : Int) m = (mult q m : Int) := fun m => by rw [multI_pr (by simpa using hq)]; simp
    rw [sumN, ent_sum hq (fun i hi => h i (by omega)), sumX, sumA', entV, hm, hm, h n (by omega), Int.toNat_natCast]
    simp only [Int.natCast_add, Int.natCast_mul]
    grind
theorem twF_mult {q : Nat} (hq : Pr q) (R : Nat) : (R : Int) * twF (q : Int) = (mult q (2 ^ R) : Int) := by
  rw [mult_pow hq two_pr]
  unfold twF
  by_cases h : q = 2
  · subst h; simp
  · rw [if_neg (by omega), if_neg h]; simp
set_option maxRecDepth 100000 in
set_option maxHeartbeats 4000000 in
theorem Sb_few (a : Nat → Addr) (ad : Option Addr) (n cap : Nat) (w : World) (hE : Errs w a) (hm : n ≤ maxLen) (hq : 16 < n) :
    Calls Tryd.prog 3 #[.slice ad n cap] w fun e w' => e = .returned (.bool true) ∧ Below w.heap.size w w' := by
  have HTH := Hid.mk' (third_any a w hE)
  unfold maxLen at hm
  have hmI : (n : Int) ≤ 9223372036854775807 := by omega
  have hqI : (16 : Int) < (n : Int) := by omega
  have hqd : decide ((16 : Int) < (n : Int)) = true := decide_eq_true hqI
  clear hE
  go_enter Tryd.func3, Tryd.ntmps3
  go_wp2_with fail
  refine HTH.out.mono ?_
  rintro e w2 ⟨rfl, hb2⟩
  have HB2 := Hid.mk' hb2
  clear hb2 HTH
  go_wp2_with fail
  go_ret
  exact ⟨rfl, HB2.out⟩
set_option maxRecDepth 100000 in
set_option maxHeartbeats 4000000 in
theorem Sb_bad (a : Nat → Addr) (ad : Option Addr) (n cap : Nat) (z : Nat → Int) (w : World) (hE : Errs w a) (h : NumsAt w (.slice ad n cap) n z) (hq : n ≤ 16) (h0 : weightsErr z n ≠ 0) :
    Calls Tryd.prog 3 #[.slice ad n cap] w fun e w' => e = .returned (.bool true) ∧ Below w.heap.size w w' := by
  have HTH := Hid.mk' (third_any a w hE)
  have hqI : ¬ (16 : Int) < (n : Int) := by omega
  have hqd : decide ((16 : Int) < (n : Int)) = false := decide_eq_false hqI
  have HWE := Hid.mk' (fun (W : World) (hb : Below w.heap.size w W) => WeightsError_any (.slice ad n cap) n z W (h.later hb) (by omega))
  have hcI : (0 : Int) < ((weightsErr z n : Nat) : Int) := by omega
  have hcd : decide ((0 : Int) < ((weightsErr z n : Nat) : Int)) = true := decide_eq_true hcI
  have hcN : 0 < weightsErr z n := by omega
  generalize weightsErr z n = ce at *
  clear hE h h0
  go_enter Tryd.func3, Tryd.ntmps3
  go_wp2_with fail
  refine HTH.out.mono ?_
  rintro e w2 ⟨rfl, hb2⟩
  have HB2 := Hid.mk' hb2
  clear hb2 HTH
  go_wp2_with fail
  refine (HWE.out w2 HB2.out).mono ?_
  rintro e w3 ⟨rfl, hw3⟩
  rw [hw3]
  clear hw3 HWE
  go_wp2_with fail
  go_ret
  exact ⟨rfl, HB2.out⟩
set_option maxRecDepth 100000 in
set_option maxHeartbeats 8000000 in
theorem Sb_ok (a : Nat → Addr) (ad : Option Addr) (n cap : Nat) (z : Nat → Int) (w : World) (hE : Errs w a) (h : NumsAt w (.slice ad n cap) n z) (h0 : weightsErr z n = 0) :
    Calls Tryd.prog 3 #[.slice ad n cap] w fun e w' => e = .returned (.bool true) ∧ Below w.heap.size w w' := by
  have HTH := Hid.mk' (third_any a w hE)
  obtain ⟨h16, hok⟩ := weightsErr_ok h0
  have hp := hok.pos
  have hl := hok.le
  obtain ⟨S, hS⟩ : ∃ S : Nat, sumN z n = (S : Int) := ⟨(sumN z n).toNat, by omega⟩
  have hS0 : 1 ≤ S := by omega
  have hS4 : S ≤ 4096 := by omega
  have hqI : ¬ (16 : Int) < (n : Int) := by omega
  have hqd : decide ((16 : Int) < (n : Int)) = false := decide_eq_false hqI
  have HWE := Hid.mk' (fun (W : World) (hb : Below w.heap.size w W) => WeightsError_any (.slice ad n cap) n z W (h.later hb) (by omega))
  rw [h0] at HWE
  have HIN := Hid.mk' (fun (W : World) (hb : Below w.heap.size w W) => ints_any (.slice ad n cap) n z W (h.later hb) (by omega))
  obtain ⟨R, hR⟩ : ∃ R, R = flT (xT z n S) n (dpT S) (dpT S + 1) := ⟨_, rfl⟩
  have hD12 := dpT_le hS4 hS0
  have hxs := xT_sum hok.nn hS
  have hfl := flT_le (x := xT z n S) (n := n) (D := dpT S) (by rw [hxs]; exact dpT_pow hS4 hS0) (dpT S + 1) (by omega)
  have hxz : ∀ i, i < n → z i = ((xT z n S i : Nat) : Int) := fun i hi => by
    have := hok.nn i hi
    show z i = ((if i < n then (z i).toNat else 2 ^ dpT S - S : Nat) : Int)
    rw [if_pos hi]; omega
  have hxS : sumX (xT z n S) n = S := by
    have h3 : xT z n S n = 2 ^ dpT S - S := if_neg (by omega)
    have h4 := dpT_ge S
    rw [sumX, h3] at hxs
    omega
  have hlow := ky_low hxs hxS
  rw [← flT_flM, ← hR] at hlow
  have hhigh : 2 ^ dpT S = S → 2 ^ R * prdW (xT z n S) n < S ^ S * 4 ^ S := fun he => by
    have h9 := ky_high hxs (by rw [hxS]; exact he.symm) hD12
    rw [← flT_flM, ← hR, he] at h9
    exact h9
  have hR6 : R ≤ 700000 := by rw [hR]; omega
  obtain ⟨g, hg⟩ : ∃ g, g = Nat.gcd R S := ⟨_, rfl⟩
  have hg0 : 0 < g := by rw [hg]; exact Nat.gcd_pos_of_pos_right _ hS0
  have hgR : g * (R / g) = R := Nat.mul_div_cancel' (by rw [hg]; exact Nat.gcd_dvd_left _ _)
  have hgS : g * (S / g) = S := Nat.mul_div_cancel' (by rw [hg]; exact Nat.gcd_dvd_right _ _)
  have hq1 : R / g ≤ R := Nat.div_le_self _ _
  have hq2 : S / g ≤ S := Nat.div_le_self _ _
  have hq0 : 1 ≤ S / g := by
    rcases Nat.eq_zero_or_pos (S / g) with e | e
    · rw [e, Nat.mul_zero] at hgS; omega
    · exact e
  have HFL : Hid (∀ W v, Below w.heap.size w W → NumsAt W v n z → Calls Tryd.prog 6 #[v] W fun e w' => e = .returned (.tuple #[.agg #[.int .i64 ((R / g : Nat) : Int), .int .i64 ((S / g : Nat) : Int)], .nilIface]) ∧ Below W.heap.size W w') := fun W v hb hv => by
    have h9 := Flips_ok a v n S z W (hE.below hb) hv hS h0
    rw [← hR] at h9
    unfold flipsV at h9
    rw [← hg] at h9
    exact h9
  have HEN : Hid (∀ W v, Below w.heap.size w W → NumsAt W v n z → Calls Tryd.prog 8 #[v] W fun e w' => ∃ dn u, e = .returned (.tuple #[.agg #[.int .i64 dn, u], .nilIface]) ∧ LV w' S (fun x => sumN (entV z S x) n) 4096 dn u ∧ Below W.heap.size W w') := fun W v hb hv => by
    obtain ⟨b, o, c, rfl, hr⟩ := row_ofS hv hok.posN
    refine (Entropy_ok a b o c n S z W (hE.below hb) hr h0 hS (fun i hi => (hok.lt hi).1) h16 hS0 hS4 hok.posN).mono ?_
    rintro e w' ⟨dn, u, rfl, hu, hb'⟩
    exact ⟨dn, u, rfl, hu.lv hS0 (by omega) (ent_primW hok (by omega) ⟨hS0, hS4⟩), hb'⟩
  have hpw := prdW_pos (xT z n S) n
  have hmU : ∀ q : Nat, Pr q → (mult q (2 ^ R * prdW (xT z n S) n) : Int) = (R : Int) * twF (q : Int) + (sumA' (fun i => xT z n S i * mult q (xT z n S i)) n : Int) := fun q hq => by
    rw [mult_mul hq _ _ (Nat.two_pow_pos R) hpw, mult_prdW hq, twF_mult hq]; simp
  have hmE : ∀ q : Nat, Pr q → sumN (entV z S (q : Int)) n = (S : Int) * (mult q S : Int) - (sumA' (fun i => xT z n S i * mult q (xT z n S i)) n : Int) := fun q hq => by
    rw [ent_sum hq hxz, hxS]
  have HC1 : Hid (∀ (W : World) (dn : Int) (u : Value), Below w.heap.size w W → LV W S (fun x => sumN (entV z S x) n) 4096 dn u → Calls Tryd.prog 9 #[.agg #[.int .i64 ((R / g : Nat) : Int), .int .i64 ((S / g : Nat) : Int)], .agg #[.int .i64 dn, u]] W fun e w' => ∃ c, e = .returned (.int .i64 c) ∧ (0 ≤ c ∧ c ≤ 2) ∧ Below W.heap.size W w') := fun W dn u hb hu => by
    refine (compare_any (U := 2 ^ R * prdW (xT z n S) n) (D := S ^ S) a W (hE.below hb) hu (by decide) hgS hS0 (by clear hgR hgS; generalize R / g = a1 at *; generalize S / g = a2 at *; omega) (by clear hgR hgS; generalize R / g = a1 at *; generalize S / g = a2 at *; omega) hq0 (by omega) (Nat.mul_pos (Nat.two_pow_pos R) hpw) (Nat.pow_pos hS0) (fun q hq => ?_)).mono ?_
    · have e1 : (g : Int) * (((R / g : Nat) : Int) * twF (q : Int)) = (R : Int) * twF (q : Int) := by
        rw [← Int.mul_assoc, ← Int.natCast_mul, hgR]
      rw [e1, hmE q hq, hmU q hq, mult_power hq hS0]
      simp only [Int.natCast_mul]
      grind
    · rintro e w' ⟨c, rfl, hc, hb'⟩
      refine ⟨c, rfl, ?_, hb'⟩
      rcases hc with rfl | ⟨hc1, hc2, _⟩
      · omega
      · rcases Nat.lt_or_ge (S ^ S) (2 ^ R * prdW (xT z n S) n) with h9 | h9
        · rw [hc1 h9]; omega
        · rw [hc2 (by omega)]; omega
  have HC2 : Hid (2 ^ dpT S = S → ∀ (W : World) (dn : Int) (u : Value), Below w.heap.size w W → LV W S (fun x => sumN (entV z S x) n) 4096 dn u → Calls Tryd.prog 9 #[.agg #[.int .i64 (((R / g : Nat) : Int) - 2 * ((S / g : Nat) : Int)), .int .i64 ((S / g : Nat) : Int)], .agg #[.int .i64 dn, u]] W fun e w' => ∃ c, e = .returned (.int .i64 c) ∧ (c = 2 ∨ c = -1) ∧ Below W.heap.size W w') := fun he W dn u hb hu => by
    have h44 : 4 ^ S = 2 ^ (2 * S) := by rw [Nat.pow_mul]
    refine (compare_any (U := 2 ^ R * prdW (xT z n S) n) (D := S ^ S * 4 ^ S) a W (hE.below hb) hu (by decide) hgS hS0 (by clear hgR hgS; generalize R / g = a1 at *; generalize S / g = a2 at *; omega) (by clear hgR hgS; generalize R / g = a1 at *; generalize S / g = a2 at *; omega) hq0 (by omega) (Nat.mul_pos (Nat.two_pow_pos R) hpw) (Nat.mul_pos (Nat.pow_pos hS0) (Nat.pow_pos (by decide))) (fun q hq => ?_)).mono ?_
    · have e1 : (g : Int) * ((((R / g : Nat) : Int) - 2 * ((S / g : Nat) : Int)) * twF (q : Int)) = (R : Int) * twF (q : Int) - ((2 * S : Nat) : Int) * twF (q : Int) := by
        have e2 : (g : Int) * ((R / g : Nat) : Int) = (R : Int) := by rw [← Int.natCast_mul, hgR]
        have e3 : (g : Int) * ((S / g : Nat) : Int) = (S : Int) := by rw [← Int.natCast_mul, hgS]
        rw [Int.natCast_mul]
        grind
      rw [e1, hmE q hq, hmU q hq, mult_mul hq _ _ (Nat.pow_pos hS0) (Nat.pow_pos (by decide)), mult_power hq hS0, h44, twF_mult hq (2 * S)]
      simp only [Int.natCast_add, Int.natCast_mul]
      grind
    · rintro e w' ⟨c, rfl, hc, hb'⟩
      refine ⟨c, rfl, ?_, hb'⟩
      rcases hc with rfl | ⟨_, _, hc3⟩
      · exact Or.inl rfl
      · exact Or.inr (hc3 (hhigh he))
  have HSM : Hid (∀ W, Below w.heap.size w W → Calls Tryd.prog 11 #[.slice ad n cap] W fun e w' => e = .returned (.int .i64 (S : Int)) ∧ w' = W) := fun W hb => by
    obtain ⟨b, o, c, hv, hr⟩ := row_ofS (h.later hb) hok.posN
    simp only [Value.slice.injEq, true_and] at hv
    obtain ⟨rfl, rfl⟩ := hv
    have h9 := Sum_some b o cap n z W hr (sum_partsS hok).1 (sum_partsS hok).2 (by omega)
    rw [hS] at h9
    exact h9
  have HPA := Hid.mk' (fun W => PowerAbove_any S W hS0 hS4)
  have HPP := Hid.mk' (dpT_pow hS4 hS0)
  clear hE h hok h0 hp hl hS hxs hfl hxz hxS hlow hhigh hmU hmE hpw hD12 hgR hgS hg hR
  generalize R / g = q1 at *
  generalize S / g = q2 at *
  obtain ⟨P, hP⟩ : ∃ P, P = 2 ^ dpT S := ⟨_, rfl⟩
  rw [← hP] at HC2 HPA HPP
  have hPP := HPP.out
  generalize (fun x => sumN (entV z S x) n) = F at *
  generalize dpT S = D at *
  clear hP
  go_enter Tryd.func3, Tryd.ntmps3
  go_wp2_with fail
  refine HTH.out.mono ?_
  rintro e w2 ⟨rfl, hb2⟩
  have HB2 := Hid.mk' hb2
  clear hb2 HTH
  go_wp2_with fail
  refine (HWE.out w2 HB2.out).mono ?_
  rintro e w3 ⟨rfl, hw3⟩
  rw [hw3]
  clear hw3 HWE
  go_wp2_with fail
  refine (HIN.out w2 HB2.out).mono ?_
  rintro e w3 ⟨v3, rfl, hv3, hb3⟩
  have HB3 := Hid.mk' (below_chain HB2.out hb3)
  have HF3 := Hid.mk' (HFL.out w3 v3 HB3.out hv3)
  clear hv3 hb3 HFL
  go_wp2_with fail
  refine HF3.out.mono ?_
  rintro e w4 ⟨rfl, hb4⟩
  have HB4 := Hid.mk' (below_chain (below_chain HB3.out hb4) (new_below w4 (.cells #[.int .i64 (q1 : Int), .int .i64 (q2 : Int)] 26)))
  have HL4 := Hid.mk' (fun (W : World) hb => res_past (x := .int .i64 (q1 : Int)) (y := .int .i64 (q2 : Int)) (w := w4) (t := 26) (w1 := W) hb)
  obtain ⟨W4, hW4⟩ : ∃ W4, W4 = w4.alloc (.cells #[.int .i64 (q1 : Int), .int .i64 (q2 : Int)] 26) := ⟨_, rfl⟩
  obtain ⟨B4, hB4⟩ : ∃ B4, B4 = w4.heap.size := ⟨_, rfl⟩
  rw [← hW4] at HB4 HL4
  rw [← hB4] at HL4
  clear hb4 HF3
  go_upto_region 5 with fail
  rw [← hW4, ← hB4]
  clear hW4 hB4
  go_wp2_with fail
  refine (HIN.out W4 HB4.out).mono ?_
  rintro e w5 ⟨v5, rfl, hv5, hb5⟩
  have HB5 := Hid.mk' (below_chain HB4.out hb5)
  have HX5 := Hid.mk' hb5
  have HF5 := Hid.mk' (HEN.out w5 v5 HB5.out hv5)
  clear hv5 hb5 HEN HIN
  go_wp2_with fail
  refine HF5.out.mono ?_
  rintro e w6 ⟨dn, u, rfl, hu, hb6⟩
  obtain ⟨u0, u1, u2, rfl⟩ := hu.form
  have hnb := new_below w6 (.cells #[.int .i64 dn, .slice u0 u1 u2] 34)
  have HB6 := Hid.mk' (below_chain (below_chain HB5.out hb6) hnb)
  have HX6 := Hid.mk' (below_chain (below_chain HX5.out hb6) hnb)
  have HU6 := Hid.mk' (hu.later hnb)
  have HL6 := Hid.mk' (fun (W : World) hb => res_past (x := .int .i64 dn) (y := .slice u0 u1 u2) (w := w6) (t := 34) (w1 := W) hb)
  obtain ⟨W6, hW6⟩ : ∃ W6, W6 = w6.alloc (.cells #[.int .i64 dn, .slice u0 u1 u2] 34) := ⟨_, rfl⟩
  obtain ⟨B6, hB6⟩ : ∃ B6, B6 = w6.heap.size := ⟨_, rfl⟩
  rw [← hW6] at HB6 HX6 HU6 HL6
  rw [← hB6] at HL6
  clear hu hnb hb6 HF5
  go_upto_region 6 with fail
  rw [← hW6, ← hB6]
  clear hW6 hB6
  have HC6 := Hid.mk' (HC1.out W6 dn _ HB6.out HU6.out)
  obtain ⟨p0, p1, _, _⟩ := HL4.out W6 HX6.out
  obtain ⟨r0, r1, _, _⟩ := HL6.out W6 (Below.refl _ _)
  clear HC1
  go_wp2_with fail
  refine HC6.out.mono ?_
  rintro e w7 ⟨c, rfl, ⟨hc0, hc2⟩, hb7⟩
  have HB7 := Hid.mk' (below_chain HB6.out hb7)
  have HX7 := Hid.mk' (below_chain HX6.out hb7)
  have HU7 := Hid.mk' (HU6.out.later hb7)
  have HY7 := Hid.mk' hb7
  clear p0 p1 r0 r1 hb7 HC6
  have hcn : ¬ c < 0 := by omega
  have hcd : decide (c < 0) = false := decide_eq_false hcn
  go_wp2_with fail
  refine (HSM.out w7 HB7.out).mono ?_
  rintro e w8 ⟨rfl, hw8⟩
  rw [hw8]
  clear hw8
  go_wp2_with fail
  refine (HPA.out w7).mono ?_
  rintro e w8 ⟨rfl, hw8⟩
  rw [hw8]
  clear hw8 HPA
  go_wp2_with fail
  refine (HSM.out w7 HB7.out).mono ?_
  rintro e w8 ⟨rfl, hw8⟩
  rw [hw8]
  clear hw8 HSM
  by_cases he : P = S
  · have hes : ((P : Int) != (S : Int)) = false := by rw [bne_eq_false_iff_eq]; omega
    have HC7 := Hid.mk' (HC2.out he w7 dn _ HB7.out HU7.out)
    obtain ⟨p0, p1, _, _⟩ := HL4.out w7 HX7.out
    obtain ⟨r0, r1, _, _⟩ := HL6.out w7 HY7.out
    clear HC2 he
    go_wp2_with fail
    refine HC7.out.mono ?_
    rintro e w9 ⟨c9, rfl, hc9, hb9⟩
    have HB9 := Hid.mk' (below_chain HB7.out hb9)
    clear hb9
    rcases hc9 with rfl | rfl
    · go_wp2_with fail
      go_ret
      exact ⟨rfl, HB9.out⟩
    · go_wp2_with fail
      go_ret
      exact ⟨rfl, HB9.out⟩
  · have hes : ((P : Int) != (S : Int)) = true := by rw [bne_iff_ne]; omega
    clear HC2 he
    go_wp2_with fail
    go_ret
    exact ⟨rfl, HB7.out⟩
theorem SampleBound_all (a : Nat → Addr) (ad : Option Addr) (n cap : Nat) (z : Nat → Int) (w : World) (hE : Errs w a) (h : NumsAt w (.slice ad n cap) n z) (hm : n ≤ maxLen) :
    Calls Tryd.prog 3 #[.slice ad n cap] w fun e w' => e = .returned (.bool true) ∧ Below w.heap.size w w' := by
  by_cases hq : 16 < n
  · exact Sb_few a ad n cap w hE hm hq
  · by_cases h0 : weightsErr z n = 0
    · exact Sb_ok a ad n cap z w hE h h0
    · exact Sb_bad a ad n cap z w hE h (by omega) h0
end Go.Proofs.YtdafknhbiffaoaaDoor

/- What the rows' condition on package variables gives a walk: four sentinels with their texts; the tables of unicode/utf8 are listed besides. -/
namespace Go.Proofs.YtdafknhbiffaoaaDoor
open Go.ChangeShapes Go.WideShapes Go.RowKit

theorem Tryd.own : ownKnob Tryd.prog.godebug = none := by kernel_rfl
theorem Tryd.star : ("*" ++ "errors.errorString" : String) = "*errors.errorString" := by decide
theorem Tryd.rowE (u : TypeId) (h : Tryd.prog.typeName? 3 u = some "*errors.errorString") : u = 136 :=
  typeName_ptr_named (nm := "errors.errorString") (by rw [Tryd.star]; kernel_rfl) (by kernel_rfl) (by decide) u (by rw [Tryd.star]; exact h)
theorem Tryd.cellsE : Tryd.prog.cellsOf 153 = 1 := by kernel_rfl
theorem Tryd.cellsS : Tryd.prog.cellsOf 9 = 1 := by kernel_rfl
theorem Tryd.g0 : Tryd.prog.globalNamed "demon/api.ErrText" = some 3 := by kernel_rfl
theorem Tryd.g1 : Tryd.prog.globalNamed "demon/api.ErrBound" = some 1 := by kernel_rfl
theorem Tryd.g2 : Tryd.prog.globalNamed "demon/api.ErrShape" = some 2 := by kernel_rfl
theorem Tryd.g3 : Tryd.prog.globalNamed "demon/api.ErrNone" = some 0 := by kernel_rfl

/-- Any number of listed sentinels of one type: each one's pointer, text and row; no two are one. -/
theorem laid_list {P : Program} {W : World} {nm : String} {ti tp te ts : TypeId} {ms : Array (String × TypeId)} {f : Field}
    (hi : P.underlying ti = some (.interface ms)) (hrow : ∀ u, P.typeName? 3 u = some nm → u = tp)
    (hp : P.underlying tp = some (.pointer te)) (he : P.underlying te = some (.struct #[f])) (hft : f.type = ts) (hfo : f.offset = 0) (hs : P.underlying ts = some .string) (hc : P.cellsOf te = 1) (hcs : P.cellsOf ts = 1) :
    ∀ (L : List (String × List UInt8)) (ps : List MemPlace), (∀ x, x ∈ L → ∃ g, P.globalNamed x.1 = some g ∧ (P.globals[g]?).map (·.type) = some ti) →
      DataW.LaidVars P W (L.map fun x => (x.1, .iface nm (.ptr (.agg [.lit (.string x.2)])))) ps → ps.Nodup →
      (∀ b off, MemPlace.cell b off ∈ ps → (∃ c t, W.heap[b]? = some (.cells c t (0, 0))) ∧ ∀ u v, W.cell? ⟨b, off, none⟩ = some (.iface u v) → Value.okWide P W .any 0 u v) →
      ∃ a : Nat → Addr, (∀ i x, L[i]? = some x → W.var? P x.1 = some #[.iface tp (.pointer (some (a i)))] ∧ (∃ s, W.cell? (a i) = some (.string s) ∧ s.data.toList = x.2) ∧
          (∃ c t, W.heap[(a i).block]? = some (.cells c t (0, 0))) ∧ MemPlace.cell (a i).block (a i).off ∈ ps) ∧
        ∀ i j, i < L.length → j < L.length → i ≠ j → a i ≠ a j := by
  intro L
  induction L with
  | nil => intro ps _ _ _ _; exact ⟨fun _ => default, fun i x h => by simp at h, fun i j h => by simp at h⟩
  | cons x r ih =>
    intro ps hgs hv hnd hrows
    obtain ⟨n, text⟩ := x
    obtain ⟨g0, t0, cs0, f0, p0, q0, hg0, ht0, hv0, hd0, hvr, e0⟩ := hv
    obtain ⟨g, hg, ht⟩ := hgs (n, text) (List.mem_cons_self ..)
    obtain rfl := Option.some.inj (hg.symm.trans hg0)
    obtain rfl := Option.some.inj (ht.symm.trans ht0)
    subst e0
    obtain ⟨l0⟩ := cs0
    have ok0 : ∀ u v, l0 = [.iface u v] → Value.okWide P W .any 0 u v := fun u v e => by
      subst e
      exact (hrows g 0 (by simp [MemPlace.row])).2 u v (by simpa using World.var?_cell hg0 hv0 0)
    obtain ⟨a0, s0, rfl, hc0, hs0, hz0, rfl⟩ := errorString_of_trod hi hrow hp he hft hfo hs hc hcs hd0 ok0
    obtain ⟨c0, tt0, hb0⟩ := (hrows a0.block a0.off (by simp [MemPlace.row])).1
    have hnq : q0.Nodup := List.Nodup.sublist (List.sublist_append_right _ _) hnd
    obtain ⟨a', ha', hne'⟩ := ih q0 (fun x hx => hgs x (List.mem_cons_of_mem _ hx)) hvr hnq (fun b off hm => hrows b off (List.mem_append_right _ hm))
    have hnot : MemPlace.cell a0.block a0.off ∉ q0 := by
      intro hm
      have := (List.nodup_append.1 hnd).2.2
      exact this (.cell a0.block a0.off) (by simp [MemPlace.row]) (.cell a0.block a0.off) hm rfl
    refine ⟨fun i => match i with | 0 => a0 | k + 1 => a' k, ?_, ?_⟩
    · intro i x hx
      cases i with
      | zero =>
        simp only [List.getElem?_cons_zero, Option.some.injEq] at hx
        subst hx
        exact ⟨hv0, ⟨s0, hc0, hs0⟩, ⟨c0, tt0, hb0⟩, by simp [MemPlace.row]⟩
      | succ k =>
        simp only [List.getElem?_cons_succ] at hx
        obtain ⟨h1, h2, h3, h4⟩ := ha' k x hx
        exact ⟨h1, h2, h3, List.mem_append_right _ h4⟩
    · have far : ∀ k, k < r.length → a0 ≠ a' k := fun k hk e => by
        obtain ⟨_, _, _, h4⟩ := ha' k r[k] (by simp [hk])
        rw [← e] at h4
        exact hnot h4
      intro i j hi' hj' hij
      cases i with
      | zero =>
        cases j with
        | zero => exact absurd rfl hij
        | succ k => exact far k (by simpa using hj')
      | succ m =>
        cases j with
        | zero => exact (far m (by simpa using hi')).symm
        | succ k => exact hne' m k (by simpa using hi') (by simpa using hj') (by omega)

/-- The names and texts, in the rows' order. -/
def fourNames : List (String × List UInt8) := [("demon/api.ErrText", [100, 101, 109, 111, 110, 58, 32, 116, 101, 120, 116]), ("demon/api.ErrBound", [100, 101, 109, 111, 110, 58, 32, 98, 111, 117, 110, 100]), ("demon/api.ErrShape", [100, 101, 109, 111, 110, 58, 32, 115, 104, 97, 112, 101]), ("demon/api.ErrNone", [100, 101, 109, 111, 110, 58, 32, 110, 111, 110, 101])]
def laidAll : List (String × DataW Unit) := [("unicode/utf8.acceptRanges", Rows.laid_unicode_utf8_acceptRanges), ("demon/api.ErrText", Rows.laid_demon_api_ErrText), ("demon/api.ErrBound", Rows.laid_demon_api_ErrBound), ("demon/api.ErrShape", Rows.laid_demon_api_ErrShape), ("demon/api.ErrNone", Rows.laid_demon_api_ErrNone), ("unicode/utf8.first", Rows.laid_unicode_utf8_first)]
theorem laidAll_parts (W : World) : laidMetH Tryd.prog laidAll W = laidMet Tryd.prog ([("unicode/utf8.acceptRanges", Rows.laid_unicode_utf8_acceptRanges)] ++ ((fourNames.map fun x => (x.1, .iface "*errors.errorString" (.ptr (.agg [.lit (.string x.2)])))) ++ [("unicode/utf8.first", Rows.laid_unicode_utf8_first)])) W := by kernel_rfl

theorem var_at {W : World} {n : String} {g : Nat} {v : Value} (hg : Tryd.prog.globalNamed n = some g) (h : W.var? Tryd.prog n = some #[v]) : W.cell? ⟨g, 0, none⟩ = some v := by
  simpa using World.var?_cell hg h 0

theorem laid_tail {P : Program} {W : World} {x : String × DataW Unit} {L : List (String × DataW Unit)} (h : laidMet P (x :: L) W) : laidMet P L W := by
  obtain ⟨n, d⟩ := x
  obtain ⟨ps, hv, hnd, hrows⟩ := h
  obtain ⟨g, t, cs, f, p, q, _, _, _, _, hvr, e⟩ := hv
  subst e
  exact ⟨q, hvr, List.Nodup.sublist (List.sublist_append_right _ _) hnd, fun b off hm => hrows b off (List.mem_append_right _ hm)⟩
theorem vars_front {P : Program} {W : World} : ∀ (L B : List (String × DataW Unit)) (ps : List MemPlace), DataW.LaidVars P W (L ++ B) ps → ∃ p1 p2, ps = p1 ++ p2 ∧ DataW.LaidVars P W L p1
  | [], B, ps, _ => ⟨[], ps, rfl, rfl⟩
  | (n, d) :: L, B, ps, h => by
    obtain ⟨g, t, cs, f, p, q, h1, h2, h3, h4, hvr, e⟩ := h
    obtain ⟨p1, p2, e2, h5⟩ := vars_front L B q hvr
    exact ⟨(MemPlace.row ⟨g, 0, none⟩ cs.size ++ p) ++ p1, p2, by rw [e, e2, ← List.append_assoc], g, t, cs, f, p, p1, h1, h2, h3, h4, h5, rfl⟩
theorem laid_front {P : Program} {W : World} {L B : List (String × DataW Unit)} (h : laidMet P (L ++ B) W) : laidMet P L W := by
  obtain ⟨ps, hv, hnd, hrows⟩ := h
  obtain ⟨p1, p2, e, h5⟩ := vars_front L B ps hv
  subst e
  exact ⟨p1, h5, List.Nodup.sublist (List.sublist_append_left _ _) hnd, fun b off hm => hrows b off (List.mem_append_left _ hm)⟩
theorem errs_of_laid {W : World} (h : laidMetH Tryd.prog laidAll W) : ∃ a : Nat → Addr, Errs W a ∧ True := by
  rw [laidAll_parts] at h
  obtain ⟨ps, hv, hnd, hrows⟩ := laid_front (L := fourNames.map fun x => (x.1, .iface "*errors.errorString" (.ptr (.agg [.lit (.string x.2)])))) (laid_tail h)
  obtain ⟨a, ha, hne⟩ := laid_list Tryd.underlying28 Tryd.rowE Tryd.underlying136 Tryd.underlying153 rfl rfl Tryd.underlying9 Tryd.cellsE Tryd.cellsS fourNames ps
    (fun x hx => by
      simp only [fourNames, List.mem_cons, List.not_mem_nil, or_false] at hx
      rcases hx with rfl | rfl | rfl | rfl
      · exact ⟨_, Tryd.g0, by kernel_rfl⟩
      · exact ⟨_, Tryd.g1, by kernel_rfl⟩
      · exact ⟨_, Tryd.g2, by kernel_rfl⟩
      · exact ⟨_, Tryd.g3, by kernel_rfl⟩) hv hnd hrows
  exact ⟨fun i => if i = 5 then a 3 else a i, ⟨var_at Tryd.g0 (ha 0 _ rfl).1, var_at Tryd.g1 (ha 1 _ rfl).1, var_at Tryd.g2 (ha 2 _ rfl).1, var_at Tryd.g3 (ha 3 _ rfl).1⟩, trivial⟩

/-- The door's own heap meets the condition. -/
theorem door_met (os : Os) (args : Array Value) : laidMetH Tryd.prog laidAll ((World.layVars Tryd.prog (World.doorLaid Tryd.prog 95 os) [("unicode/utf8.first", Rows.laid_unicode_utf8_first)]).forCall (fun _ _ => 0) ⟨#[], args, []⟩).memory :=
  laidMetH_of_parts3 (fuel := 8) (laidMet_of_run' 8 (by kernel_rfl) (by kernel_rfl)) (by kernel_rfl) (by kernel_rfl)
end Go.Proofs.YtdafknhbiffaoaaDoor

/- A parameter of type []int opened. -/
namespace Go.Proofs.YtdafknhbiffaoaaDoor
open Go.ChangeShapes Go.WideShapes Go.ChangeAt Go.RowKit Go.Joins Go.Deep

theorem Tryd.laidOut : laidOutB Tryd.prog = true := by kernel_rfl
theorem Tryd.cellsInt : Tryd.prog.cellsOf 3 = 1 := by kernel_rfl
theorem Tryd.cellsInts : Tryd.prog.cellsOf 22 = 1 := by kernel_rfl

set_option maxRecDepth 100000 in
/-- What a parameter of type []int gives: its slice, its numbers. -/
theorem open_nums {H : Type} {enc : TypeId × Value → H} {W : World} {base : Nat} {v : Value} {d : DataW H} {p : List MemPlace} (hv : Value.okWide Tryd.prog W .any base 22 v)
    (h : DataW.Trod enc Tryd.prog W 0 (fun _ => true) true 22 v d p) :
    ∃ (ad : Option Addr) (n cap : Nat) (z : Nat → Int), v = .slice ad n cap ∧ n ≤ maxLen ∧ NumsAt W (.slice ad n cap) n z := by
  obtain ⟨ad, n, cap, rfl⟩ := okWide_slice Tryd.underlying22 hv
  obtain ⟨fuel, hf⟩ := h
  rcases open_ints Tryd.underlying22 Tryd.underlying3 Tryd.cellsInt hf with ⟨hc, _⟩ | ⟨a, len, cap', zs, hc, _, hl, hm, hz, _, hcell, _⟩
  · simp [Value.cells] at hc
    obtain ⟨rfl, rfl, rfl⟩ := hc
    exact ⟨none, 0, 0, fun _ => 0, rfl, Nat.zero_le _, Or.inl ⟨none, 0, rfl, rfl⟩⟩
  · simp [Value.cells] at hc
    obtain ⟨rfl, rfl, rfl⟩ := hc
    simp only [if_true] at hz
    rcases Nat.eq_zero_or_pos n with rfl | hpos
    · exact ⟨some a, 0, cap, fun _ => 0, rfl, Nat.zero_le _, Or.inl ⟨some a, cap, rfl, rfl⟩⟩
    · obtain ⟨b, o, spot⟩ := a
      have hspot : spot = none := by simpa [Addr.add] using World.cell?_spot (hcell 0 (by omega))
      subst hspot
      refine ⟨_, n, cap, fun i => zs.getD i 0, rfl, by omega, Or.inr ⟨b, o, cap, rfl, hpos, fun i hi => ?_⟩⟩
      have := hcell i (by omega)
      rw [Go.Proofs.YtdafknhbiffaoaaDoor.add_plain] at this
      exact this
end Go.Proofs.YtdafknhbiffaoaaDoor
