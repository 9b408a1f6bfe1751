/- Fractions that are one together: the least whole numbers that have their ratios. -/
import Derived.WalkKit
namespace Go.Proofs.YtnihclkaaglnjaaGreatDoor

def lcmP (l : List (Nat × Nat)) : Nat := l.foldl (fun a p => Nat.lcm a p.2) 1
def wholeP (L : Nat) (p : Nat × Nat) : Nat := p.1 * (L / p.2)
def gcdP (L : Nat) (l : List (Nat × Nat)) : Nat := l.foldl (fun g p => Nat.gcd g (wholeP L p)) 0
def LowP (p : Nat × Nat) : Prop := 0 < p.2 ∧ Nat.gcd p.1 p.2 = 1

theorem lcmP_snoc (l : List (Nat × Nat)) (p : Nat × Nat) : lcmP (l ++ [p]) = Nat.lcm (lcmP l) p.2 := by simp [lcmP]
theorem gcdP_snoc (L : Nat) (l : List (Nat × Nat)) (p : Nat × Nat) : gcdP L (l ++ [p]) = Nat.gcd (gcdP L l) (wholeP L p) := by simp [gcdP]
theorem take_snocP {l : List (Nat × Nat)} {k : Nat} {p : Nat × Nat} (h : l[k]? = some p) : l.take (k + 1) = l.take k ++ [p] := by
  rw [List.take_add_one, h]; rfl
theorem lcmP_take {l : List (Nat × Nat)} {k : Nat} {p : Nat × Nat} (h : l[k]? = some p) : lcmP (l.take (k + 1)) = Nat.lcm (lcmP (l.take k)) p.2 := by
  rw [take_snocP h, lcmP_snoc]
theorem gcdP_take {L : Nat} {l : List (Nat × Nat)} {k : Nat} {p : Nat × Nat} (h : l[k]? = some p) : gcdP L (l.take (k + 1)) = Nat.gcd (gcdP L (l.take k)) (wholeP L p) := by
  rw [take_snocP h, gcdP_snoc]
theorem snoc_ind {P : List (Nat × Nat) → Prop} (h0 : P []) (h1 : ∀ l p, P l → P (l ++ [p])) (l : List (Nat × Nat)) : P l := by
  have h : ∀ n, ∀ l : List (Nat × Nat), l.length = n → P l := by
    intro n
    induction n with
    | zero => intro l hl; rw [List.length_eq_zero_iff.mp hl]; exact h0
    | succ n ih =>
      intro l hl
      have hne : l ≠ [] := fun e => by rw [e] at hl; simp at hl
      rw [← List.dropLast_concat_getLast hne]
      exact h1 _ _ (ih _ (by simp; omega))
  exact h _ l rfl
theorem lcmP_pos (l : List (Nat × Nat)) : (∀ p, p ∈ l → 0 < p.2) → 0 < lcmP l := by
  refine snoc_ind (P := fun l => (∀ p, p ∈ l → 0 < p.2) → 0 < lcmP l) ?_ ?_ l
  · intro _; simp [lcmP]
  · intro l p ih h
    rw [lcmP_snoc]
    exact Nat.lcm_pos (ih fun q hq => h q (by simp [hq])) (h p (by simp))
theorem lcmP_dvd (l : List (Nat × Nat)) : ∀ p, p ∈ l → p.2 ∣ lcmP l := by
  refine snoc_ind (P := fun l => ∀ p, p ∈ l → p.2 ∣ lcmP l) ?_ ?_ l
  · intro p hp; simp at hp
  · intro l q ih p hp
    rw [lcmP_snoc]
    rcases List.mem_append.mp hp with h | h
    · exact Nat.dvd_trans (ih p h) (Nat.dvd_lcm_left _ _)
    · rw [List.mem_singleton.mp h]; exact Nat.dvd_lcm_right _ _
theorem lcmP_least (M : Nat) (l : List (Nat × Nat)) : (∀ p, p ∈ l → p.2 ∣ M) → lcmP l ∣ M := by
  refine snoc_ind (P := fun l => (∀ p, p ∈ l → p.2 ∣ M) → lcmP l ∣ M) ?_ ?_ l
  · intro _; simp [lcmP]
  · intro l q ih h
    rw [lcmP_snoc]
    exact Nat.lcm_dvd (ih fun p hp => h p (by simp [hp])) (h q (by simp))
theorem gcdP_dvd (L : Nat) (l : List (Nat × Nat)) : ∀ p, p ∈ l → gcdP L l ∣ wholeP L p := by
  refine snoc_ind (P := fun l => ∀ p, p ∈ l → gcdP L l ∣ wholeP L p) ?_ ?_ l
  · intro p hp; simp at hp
  · intro l q ih p hp
    rw [gcdP_snoc]
    rcases List.mem_append.mp hp with h | h
    · exact Nat.dvd_trans (Nat.gcd_dvd_left _ _) (ih p h)
    · rw [List.mem_singleton.mp h]; exact Nat.gcd_dvd_right _ _
def sumP (L : Nat) (l : List (Nat × Nat)) : Nat := (l.map (wholeP L)).sum
theorem dvd_sumP {g L : Nat} (l : List (Nat × Nat)) (h : ∀ p, p ∈ l → g ∣ wholeP L p) : g ∣ sumP L l := by
  induction l with
  | nil => simp [sumP]
  | cons p l ih =>
    have : sumP L (p :: l) = wholeP L p + sumP L l := by simp [sumP]
    rw [this]
    exact Nat.dvd_add (h p (by simp)) (ih fun q hq => h q (by simp [hq]))
theorem gcdP_one (l : List (Nat × Nat)) (hl : ∀ p, p ∈ l → LowP p) (hs : sumP (lcmP l) l = lcmP l) : gcdP (lcmP l) l = 1 := by
  have hL := lcmP_pos l fun p hp => (hl p hp).1
  have hg := gcdP_dvd (lcmP l) l
  have hgs := dvd_sumP l hg
  rw [hs] at hgs
  obtain ⟨M, hM⟩ := hgs
  have hdM : lcmP l ∣ M := by
    refine lcmP_least M l fun p hp => ?_
    obtain ⟨e, he⟩ := lcmP_dvd l p hp
    obtain ⟨t, ht⟩ := hg p hp
    have hp2 := (hl p hp).1
    have hw : wholeP (lcmP l) p = p.1 * e := by unfold wholeP; rw [he, Nat.mul_div_cancel_left _ hp2]
    rw [hw] at ht
    have hgp : 0 < gcdP (lcmP l) l := by
      rcases Nat.eq_zero_or_pos (gcdP (lcmP l) l) with h | h
      · rw [h, Nat.zero_mul] at hM; omega
      · exact h
    have h3 : gcdP (lcmP l) l * (p.1 * M) = gcdP (lcmP l) l * (p.2 * t) := by
      calc gcdP (lcmP l) l * (p.1 * M) = p.1 * (gcdP (lcmP l) l * M) := by rw [Nat.mul_left_comm]
        _ = p.1 * (p.2 * e) := by rw [← hM, he]
        _ = p.2 * (p.1 * e) := by rw [Nat.mul_left_comm]
        _ = p.2 * (gcdP (lcmP l) l * t) := by rw [ht]
        _ = gcdP (lcmP l) l * (p.2 * t) := by rw [Nat.mul_left_comm]
    have h4 := Nat.eq_of_mul_eq_mul_left hgp h3
    have hc : Nat.Coprime p.2 p.1 := by rw [Nat.Coprime, Nat.gcd_comm]; exact (hl p hp).2
    exact hc.dvd_of_dvd_mul_left ⟨t, h4⟩
  have hMp : 0 < M := by
    rcases Nat.eq_zero_or_pos M with h | h
    · rw [h, Nat.mul_zero] at hM; omega
    · exact h
  have hle := Nat.le_of_dvd hMp hdM
  generalize gcdP (lcmP l) l = g at hM
  generalize lcmP l = L at *
  rcases g with _ | _ | g
  · simp at hM; omega
  · rfl
  · have : 2 * M ≤ (g + 1 + 1) * M := Nat.mul_le_mul_right _ (by omega)
    omega

/-- rows of a table, one behind the other -/
def flatF (n : Nat) (f : Nat → Nat → Nat × Nat) : Nat → List (Nat × Nat)
  | 0 => []
  | i + 1 => flatF n f i ++ (List.range n).map (f i)
theorem flatF_length (n : Nat) (f : Nat → Nat → Nat × Nat) : ∀ R, (flatF n f R).length = R * n
  | 0 => by simp [flatF]
  | R + 1 => by rw [flatF, List.length_append, flatF_length n f R, Nat.succ_mul]; simp
theorem flatF_get {n : Nat} {f : Nat → Nat → Nat × Nat} : ∀ {R i k : Nat}, i < R → k < n → (flatF n f R)[i * n + k]? = some (f i k)
  | R + 1, i, k, hi, hk => by
    rw [flatF]
    rcases Nat.lt_or_ge i R with h | h
    · rw [List.getElem?_append_left (by rw [flatF_length]; have : (i + 1) * n ≤ R * n := Nat.mul_le_mul_right _ h; rw [Nat.succ_mul] at this; omega)]
      exact flatF_get h hk
    · obtain rfl : i = R := by omega
      rw [List.getElem?_append_right (by rw [flatF_length]; omega), flatF_length]
      rw [show i * n + k - i * n = k by omega]
      simp [hk]
theorem flatF_mem {n : Nat} {f : Nat → Nat → Nat × Nat} {p : Nat × Nat} : ∀ {R : Nat}, p ∈ flatF n f R → ∃ i k, i < R ∧ k < n ∧ p = f i k
  | 0, h => by simp [flatF] at h
  | R + 1, h => by
    rw [flatF] at h
    rcases List.mem_append.mp h with h | h
    · obtain ⟨i, k, hi, hk, e⟩ := flatF_mem h
      exact ⟨i, k, by omega, hk, e⟩
    · obtain ⟨k, hk, rfl⟩ := List.mem_map.mp h
      exact ⟨R, k, by omega, List.mem_range.mp hk, rfl⟩

/-- a fraction in its lowest terms -/
def lowP (a b : Nat) : Nat × Nat := (a / Nat.gcd a b, b / Nat.gcd a b)
theorem lowP_low {a b : Nat} (hb : 0 < b) : LowP (lowP a b) := by
  have hg : 0 < Nat.gcd a b := Nat.gcd_pos_of_pos_right _ hb
  exact ⟨Nat.div_pos (Nat.le_of_dvd hb (Nat.gcd_dvd_right _ _)) hg, (by show Nat.gcd (a / Nat.gcd a b) (b / Nat.gcd a b) = 1; rw [Nat.gcd_div (Nat.gcd_dvd_left a b) (Nat.gcd_dvd_right a b)]; exact Nat.div_self hg)⟩
theorem lowP_cross (a b : Nat) : (lowP a b).1 * b = a * (lowP a b).2 := by
  obtain ⟨x, hx⟩ := Nat.gcd_dvd_left a b
  obtain ⟨y, hy⟩ := Nat.gcd_dvd_right a b
  show a / Nat.gcd a b * b = a * (b / Nat.gcd a b)
  rw [Nat.mul_comm (a / Nat.gcd a b) b, ← Nat.mul_div_assoc _ (Nat.gcd_dvd_left a b), ← Nat.mul_div_assoc _ (Nat.gcd_dvd_right a b), Nat.mul_comm]
theorem lowP_scale {a b c : Nat} (hc : 0 < c) : lowP (c * a) (c * b) = lowP a b := by
  unfold lowP
  rw [Nat.gcd_mul_left, Nat.mul_div_mul_left _ _ hc, Nat.mul_div_mul_left _ _ hc]
/-- a product of two fractions in their lowest terms, made lowest -/
theorem lowP_times {a b c d : Nat} (hb : 0 < b) (hd : 0 < d) : lowP ((lowP a b).1 * (lowP c d).1) ((lowP a b).2 * (lowP c d).2) = lowP (a * c) (b * d) := by
  have h1 : 0 < Nat.gcd a b := Nat.gcd_pos_of_pos_right _ hb
  have h2 : 0 < Nat.gcd c d := Nat.gcd_pos_of_pos_right _ hd
  rw [← lowP_scale (c := Nat.gcd a b * Nat.gcd c d) (Nat.mul_pos h1 h2)]
  have e1 : Nat.gcd a b * (a / Nat.gcd a b) = a := Nat.mul_div_cancel' (Nat.gcd_dvd_left a b)
  have e2 : Nat.gcd a b * (b / Nat.gcd a b) = b := Nat.mul_div_cancel' (Nat.gcd_dvd_right a b)
  have e3 : Nat.gcd c d * (c / Nat.gcd c d) = c := Nat.mul_div_cancel' (Nat.gcd_dvd_left c d)
  have e4 : Nat.gcd c d * (d / Nat.gcd c d) = d := Nat.mul_div_cancel' (Nat.gcd_dvd_right c d)
  congr 1
  · show Nat.gcd a b * Nat.gcd c d * (a / Nat.gcd a b * (c / Nat.gcd c d)) = a * c
    rw [Nat.mul_mul_mul_comm, e1, e3]
  · show Nat.gcd a b * Nat.gcd c d * (b / Nat.gcd a b * (d / Nat.gcd c d)) = b * d
    rw [Nat.mul_mul_mul_comm, e2, e4]

def sumW (f : Nat → Nat) : Nat → Nat
  | 0 => 0
  | k + 1 => sumW f k + f k
theorem sumW_map (f : Nat → Nat) : ∀ n, ((List.range n).map f).sum = sumW f n
  | 0 => by simp [sumW]
  | n + 1 => by rw [List.range_succ, List.map_append, List.sum_append, sumW_map f n]; simp [sumW]
theorem sumW_mul (f : Nat → Nat) (c : Nat) : ∀ n, sumW (fun k => f k * c) n = sumW f n * c
  | 0 => by simp [sumW]
  | n + 1 => by simp only [sumW, sumW_mul f c n, Nat.add_mul]
theorem sumW_congr {f g : Nat → Nat} : ∀ {n : Nat}, (∀ i, i < n → f i = g i) → sumW f n = sumW g n
  | 0, _ => rfl
  | n + 1, h => by simp only [sumW]; rw [sumW_congr fun i hi => h i (by omega), h n (by omega)]
theorem sumP_flat (L n : Nat) (f : Nat → Nat → Nat × Nat) : ∀ R, sumP L (flatF n f R) = sumW (fun i => sumW (fun k => wholeP L (f i k)) n) R
  | 0 => by simp [sumP, flatF, sumW]
  | R + 1 => by
    have h := sumP_flat L n f R
    have e : sumP L (flatF n f (R + 1)) = sumP L (flatF n f R) + sumP L ((List.range n).map (f R)) := by simp [sumP, flatF]
    rw [e, h]
    have e2 : sumP L ((List.range n).map (f R)) = sumW (fun k => wholeP L (f R k)) n := by
      rw [← sumW_map]; simp [sumP, List.map_map]; rfl
    rw [e2]; rfl
/-- the chances of what goes in and comes out -/
def chaF (p : Nat → Nat) (S : Nat) (c : Nat → Nat → Nat) (T : Nat → Nat) (i k : Nat) : Nat × Nat := lowP (c i k * p i) (S * T i)
theorem chaF_sum {p : Nat → Nat} {S : Nat} {c : Nat → Nat → Nat} {T : Nat → Nat} {n R : Nat} (hS : S = sumW p R) (hS0 : 0 < S) (hT : ∀ i, i < R → T i = sumW (c i) n ∧ 0 < T i) :
    sumP (lcmP (flatF n (chaF p S c T) R)) (flatF n (chaF p S c T) R) = lcmP (flatF n (chaF p S c T) R) := by
  have hd : ∀ i k, i < R → k < n → (chaF p S c T i k).2 ∣ lcmP (flatF n (chaF p S c T) R) := fun i k hi hk => lcmP_dvd _ _ (List.mem_of_getElem? (flatF_get hi hk))
  generalize lcmP (flatF n (chaF p S c T) R) = L at *
  rw [sumP_flat]
  have h1 : ∀ i, i < R → sumW (fun k => wholeP L (chaF p S c T i k)) n * S = p i * L := by
    intro i hi
    obtain ⟨e, h0⟩ := hT i hi
    refine Nat.eq_of_mul_eq_mul_right h0 ?_
    rw [Nat.mul_assoc, ← sumW_mul]
    have h2 : sumW (fun k => wholeP L (chaF p S c T i k) * (S * T i)) n = sumW (fun k => c i k * (p i * L)) n := by
      refine sumW_congr fun k hk => ?_
      show wholeP L (chaF p S c T i k) * (S * T i) = c i k * (p i * L)
      obtain ⟨e, he⟩ := hd i k hi hk
      have hp : 0 < (chaF p S c T i k).2 := (lowP_low (Nat.mul_pos hS0 h0)).1
      have hx : (chaF p S c T i k).1 * (S * T i) = c i k * p i * (chaF p S c T i k).2 := lowP_cross _ _
      unfold wholeP
      rw [he, Nat.mul_div_cancel_left _ hp, Nat.mul_right_comm, hx, ← Nat.mul_assoc, Nat.mul_assoc, Nat.mul_assoc]
    rw [h2, sumW_mul, e, Nat.mul_comm]
  refine Nat.eq_of_mul_eq_mul_right hS0 ?_
  rw [← sumW_mul, sumW_congr h1, sumW_mul, ← hS, Nat.mul_comm]
theorem chaF_gcd {p : Nat → Nat} {S : Nat} {c : Nat → Nat → Nat} {T : Nat → Nat} {n R : Nat} (hS : S = sumW p R) (hS0 : 0 < S) (hT : ∀ i, i < R → T i = sumW (c i) n ∧ 0 < T i) :
    gcdP (lcmP (flatF n (chaF p S c T) R)) (flatF n (chaF p S c T) R) = 1 := by
  refine gcdP_one _ (fun q hq => ?_) (chaF_sum hS hS0 hT)
  obtain ⟨i, k, hi, hk, rfl⟩ := flatF_mem hq
  exact lowP_low (Nat.mul_pos hS0 (hT i hi).2)
end Go.Proofs.YtnihclkaaglnjaaGreatDoor
