/- Polynomials modulo a prime: as many values as coefficients tell them (LAGRANGE); NEWTON's differences. Plain functions. -/
import Derived.Test.YtdlbnolnkmhdcaaDoorInts
namespace Go.Proofs.YtdlbnolnkmhdcaaDoor

/-- The same modulo p. -/
def Mo (p a b : Int) : Prop := ∃ k, a - b = p * k
theorem Mo.refl (p a : Int) : Mo p a a := ⟨0, by omega⟩
theorem Mo.of {p a b : Int} (h : a = b) : Mo p a b := h ▸ Mo.refl p a
theorem Mo.symm {p a b : Int} : Mo p a b → Mo p b a := fun ⟨k, h⟩ => ⟨-k, by grind⟩
theorem Mo.trans {p a b c : Int} : Mo p a b → Mo p b c → Mo p a c := fun ⟨k, h⟩ ⟨l, h'⟩ => ⟨k + l, by grind⟩
theorem Mo.add {p a b c d : Int} : Mo p a b → Mo p c d → Mo p (a + c) (b + d) := fun ⟨k, h⟩ ⟨l, h'⟩ => ⟨k + l, by grind⟩
theorem Mo.sub {p a b c d : Int} : Mo p a b → Mo p c d → Mo p (a - c) (b - d) := fun ⟨k, h⟩ ⟨l, h'⟩ => ⟨k - l, by grind⟩
theorem Mo.mul {p a b c d : Int} : Mo p a b → Mo p c d → Mo p (a * c) (b * d) := fun ⟨k, h⟩ ⟨l, h'⟩ => ⟨k * c + b * l, by grind⟩
theorem Mo.emod (p a : Int) : Mo p (a % p) a := ⟨-(a / p), by have := Int.mul_ediv_add_emod a p; grind⟩
theorem Mo.eq {p a b : Int} (h : Mo p a b) : a % p = b % p := by
  obtain ⟨k, h⟩ := h
  have : a = b + p * k := by omega
  rw [this, Int.add_mul_emod_self_left]
theorem Mo.exact {p a b : Int} (h : Mo p a b) (ha : 0 ≤ a ∧ a < p) (hb : 0 ≤ b ∧ b < p) : a = b := by
  have := h.eq
  rwa [Int.emod_eq_of_lt ha.1 ha.2, Int.emod_eq_of_lt hb.1 hb.2] at this
theorem Mo.of_eq {p a b : Int} (h : a % p = b % p) : Mo p a b := (Mo.emod p a).symm.trans ((Mo.of h).trans (Mo.emod p b))
theorem Mo.zero_add_p (p a : Int) : Mo p (a + p) a := ⟨1, by omega⟩

/-- Every number that p does not divide has an inverse. -/
def Fl (p : Int) : Prop := ∀ a, ¬ Mo p a 0 → ∃ r, Mo p (a * r) 1
theorem Fl.euclid {p : Int} (h : Fl p) {a b : Int} (ha : ¬ Mo p a 0) (hb : Mo p (a * b) 0) : Mo p b 0 := by
  obtain ⟨r, k, hr⟩ := h a ha
  obtain ⟨l, hl⟩ := hb
  exact ⟨r * l - k * b, by grind⟩

/-- Is it a polynomial with m coefficients? -/
def Pol (p : Int) : Nat → (Int → Int) → Prop
  | 0, f => ∀ x, Mo p (f x) 0
  | m + 1, f => ∃ c g, Pol p m g ∧ ∀ x, Mo p (f x) (c + x * g x)
theorem Pol.same {p : Int} : ∀ {m : Nat} {f g : Int → Int}, Pol p m f → (∀ x, Mo p (g x) (f x)) → Pol p m g
  | 0, _, _, h, he => fun x => (he x).trans (h x)
  | _ + 1, _, _, ⟨c, h, h1, h2⟩, he => ⟨c, h, h1, fun x => (he x).trans (h2 x)⟩
theorem Pol.zero {p : Int} : ∀ (m : Nat), Pol p m (fun _ => 0)
  | 0 => fun _ => Mo.refl _ _
  | m + 1 => ⟨0, _, Pol.zero m, fun x => Mo.of (by grind)⟩
theorem Pol.add {p : Int} : ∀ {m : Nat} {f g : Int → Int}, Pol p m f → Pol p m g → Pol p m (fun x => f x + g x)
  | 0, _, _, h, h' => fun x => (h x).add (h' x)
  | _ + 1, _, _, ⟨c, h, h1, h2⟩, ⟨d, i, i1, i2⟩ => ⟨c + d, _, h1.add i1, fun x => ((h2 x).add (i2 x)).trans (Mo.of (by grind))⟩
theorem Pol.scale {p : Int} (k : Int) : ∀ {m : Nat} {f : Int → Int}, Pol p m f → Pol p m (fun x => k * f x)
  | 0, _, h => fun x => ((Mo.refl p k).mul (h x)).trans (Mo.of (by omega))
  | _ + 1, _, ⟨c, h, h1, h2⟩ => ⟨k * c, _, h1.scale k, fun x => ((Mo.refl p k).mul (h2 x)).trans (Mo.of (by grind))⟩
theorem Pol.sub {p : Int} {m : Nat} {f g : Int → Int} (h : Pol p m f) (h' : Pol p m g) : Pol p m (fun x => f x - g x) :=
  (h.add (h'.scale (-1))).same fun x => Mo.of (by grind)
theorem Pol.more {p : Int} : ∀ {m : Nat} {f : Int → Int}, Pol p m f → Pol p (m + 1) f
  | 0, f, h => ⟨0, fun _ => 0, fun _ => Mo.refl _ _, fun x => (h x).trans (Mo.of (by simp))⟩
  | _ + 1, _, ⟨c, h, h1, h2⟩ => ⟨c, h, h1.more, h2⟩
theorem Pol.up {p : Int} {m n : Nat} (hmn : m ≤ n) {f : Int → Int} (h : Pol p m f) : Pol p n f := by
  induction n with
  | zero => obtain rfl : m = 0 := by omega
            exact h
  | succ n ih =>
    rcases Nat.lt_or_ge n m with h1 | h1
    · obtain rfl : m = n + 1 := by omega
      exact h
    · exact (ih h1).more
theorem Pol.times {p : Int} {m : Nat} {f : Int → Int} (h : Pol p m f) : Pol p (m + 1) (fun x => x * f x) := ⟨0, f, h, fun x => Mo.of (by simp)⟩
theorem Pol.const {p : Int} (c : Int) : Pol p 1 (fun _ => c) := ⟨c, fun _ => 0, fun _ => Mo.refl _ _, fun x => Mo.of (by simp)⟩
theorem Pol.pow {p : Int} : ∀ k : Nat, Pol p (k + 1) (fun x => x ^ k)
  | 0 => (Pol.const 1).same fun x => Mo.of (by simp)
  | k + 1 => (Pol.pow k).times.same fun x => Mo.of (by grind)
theorem Pol.line {p : Int} {m : Nat} {f : Int → Int} (a : Int) (h : Pol p m f) : Pol p (m + 1) (fun x => (x - a) * f x) :=
  (h.times.add (h.more.scale (-a))).same fun x => Mo.of (by grind)
theorem Pol.enil {p : Int} {m : Nat} {f : Int → Int} (a : Int) (h : Pol p m f) : Pol p (m + 1) (fun x => f x * (a - x)) :=
  ((h.line a).scale (-1)).same fun x => Mo.of (by grind)
theorem Pol.quot {p : Int} : ∀ {m : Nat} {f : Int → Int}, Pol p (m + 1) f → ∀ a, ∃ g, Pol p m g ∧ ∀ x, Mo p (f x) (f a + (x - a) * g x)
  | 0, f, ⟨c, h, h1, h2⟩, a => ⟨fun _ => 0, fun _ => Mo.refl _ _, fun x => by
    have e1 := (h2 x).trans ((Mo.refl p c).add ((Mo.refl p x).mul (h1 x)))
    have e2 := (h2 a).trans ((Mo.refl p c).add ((Mo.refl p a).mul (h1 a)))
    exact e1.trans (Mo.symm ((e2.add (Mo.refl p _)).trans (Mo.of (by simp))))⟩
  | m + 1, f, ⟨c, h, h1, h2⟩, a => by
    obtain ⟨g, g1, g2⟩ := h1.quot a
    refine ⟨fun x => h a + x * g x, ⟨h a, g, g1, fun x => Mo.refl _ _⟩, fun x => ?_⟩
    have e1 := (h2 x).trans ((Mo.refl p c).add ((Mo.refl p x).mul (g2 x)))
    have e2 := (h2 a).add (Mo.refl p ((x - a) * (h a + x * g x)))
    exact e1.trans (Mo.trans (Mo.of (by grind)) e2.symm)
/-- Unlike places. -/
def Apart (p : Int) (a : Nat → Int) (m : Nat) : Prop := ∀ i j, i < m → j < m → i ≠ j → ¬ Mo p (a i - a j) 0
theorem Pol.roots {p : Int} (hF : Fl p) (a : Nat → Int) : ∀ {m : Nat} {f : Int → Int}, Pol p m f → Apart p a m → (∀ i, i < m → Mo p (f (a i)) 0) → ∀ x, Mo p (f x) 0
  | 0, _, h, _, _, x => h x
  | m + 1, f, h, ha, hr, x => by
    obtain ⟨g, g1, g2⟩ := h.quot (a m)
    have hg := Pol.roots hF a g1 (fun i j hi hj => ha i j (by omega) (by omega)) (fun i hi => by
      refine hF.euclid (ha i m (by omega) (by omega) (by omega)) ?_
      have e := (g2 (a i)).symm.sub (hr m (by omega))
      exact (Mo.of (by omega)).trans (e.trans ((hr i (by omega)).sub (Mo.refl p 0))))
    exact (g2 x).trans (((hr m (by omega)).add ((Mo.refl p _).mul (hg x))).trans (Mo.of (by omega)))
theorem Pol.unique {p : Int} (hF : Fl p) {a : Nat → Int} {m : Nat} {f g : Int → Int} (hf : Pol p m f) (hg : Pol p m g) (ha : Apart p a m) (h : ∀ i, i < m → Mo p (f (a i)) (g (a i))) (x : Int) : Mo p (f x) (g x) := by
  have := Pol.roots hF a (hf.sub hg) ha (fun i hi => ((h i hi).sub (Mo.refl p _)).trans (Mo.of (by omega))) x
  obtain ⟨k, hk⟩ := this
  exact ⟨k, by omega⟩

/-- The product of all a k - x but the i-th. -/
def prodE (a : Nat → Int) (i : Nat) (x : Int) : Nat → Int
  | 0 => 1
  | n + 1 => if n = i then prodE a i x n else prodE a i x n * (a n - x)
theorem prodE_pol {p : Int} (a : Nat → Int) (i : Nat) : ∀ n, Pol p (if n ≤ i then n + 1 else n) (fun x => prodE a i x n)
  | 0 => by
    rw [if_pos (Nat.zero_le _)]
    exact (Pol.const 1).same fun x => Mo.refl _ _
  | n + 1 => by
    have ih := prodE_pol (p := p) a i n
    by_cases h : n = i
    · rw [if_neg (by omega)]
      rw [if_pos (by omega)] at ih
      exact ih.same fun x => Mo.of (by simp [prodE, h])
    · have e : ∀ x, prodE a i x (n + 1) = prodE a i x n * (a n - x) := fun x => by simp [prodE, h]
      by_cases h2 : n + 1 ≤ i
      · rw [if_pos h2]
        rw [if_pos (by omega)] at ih
        exact (ih.enil (a n)).same fun x => Mo.of (e x)
      · rw [if_neg h2]
        rw [if_neg (by omega)] at ih
        exact (ih.enil (a n)).same fun x => Mo.of (e x)
theorem prodE_zero {a : Nat → Int} {i j : Nat} (hj : j ≠ i) : ∀ {n}, j < n → prodE a i (a j) n = 0
  | 0, h => by omega
  | n + 1, h => by
    simp only [prodE]
    by_cases h1 : n = i
    · rw [if_pos h1]; exact prodE_zero hj (by omega)
    · rw [if_neg h1]
      rcases Nat.lt_or_ge j n with h2 | h2
      · rw [prodE_zero hj h2]; omega
      · obtain rfl : j = n := by omega
        grind
theorem prodE_unit {p : Int} (hF : Fl p) {a : Nat → Int} {m : Nat} (ha : Apart p a m) {i : Nat} (hi : i < m) (h1 : ¬ Mo p 1 0) : ∀ n, n ≤ m → ¬ Mo p (prodE a i (a i) n) 0
  | 0, _ => h1
  | n + 1, h => by
    have ih := prodE_unit hF ha hi h1 n (by omega)
    simp only [prodE]
    by_cases h2 : n = i
    · rw [if_pos h2]; exact ih
    · rw [if_neg h2]
      intro hz
      exact ha n i (by omega) hi h2 (hF.euclid ih hz)
/-- The sum of LAGRANGE's parts. -/
def lag (a v r : Nat → Int) (m : Nat) (x : Int) : Nat → Int
  | 0 => 0
  | n + 1 => lag a v r m x n + v n * (r n * prodE a n x m)
theorem lag_pol {p : Int} (a v r : Nat → Int) (m : Nat) : ∀ n, n ≤ m → Pol p m (fun x => lag a v r m x n)
  | 0, _ => (Pol.zero m).same fun _ => Mo.refl _ _
  | n + 1, h => by
    have h1 := prodE_pol (p := p) a n m
    rw [if_neg (by omega)] at h1
    exact ((lag_pol a v r m n (by omega)).add ((h1.scale (r n)).scale (v n))).same fun x => Mo.refl _ _
theorem lag_at {p : Int} {a v r : Nat → Int} {m : Nat} (hr : ∀ i, i < m → Mo p (r i * prodE a i (a i) m) 1) {j : Nat} (hj : j < m) : ∀ n, n ≤ m → Mo p (lag a v r m (a j) n) (if j < n then v j else 0)
  | 0, _ => by rw [if_neg (by omega)]; exact Mo.refl _ _
  | n + 1, h => by
    have ih := lag_at (v := v) hr hj n (by omega)
    simp only [lag]
    by_cases h1 : j = n
    · subst h1
      rw [if_neg (by omega)] at ih
      rw [if_pos (by omega)]
      exact (ih.add ((Mo.refl p (v j)).mul (hr j hj))).trans (Mo.of (by omega))
    · rw [prodE_zero h1 (by omega)]
      refine (ih.add (Mo.refl p _)).trans (Mo.of ?_)
      by_cases h2 : j < n
      · rw [if_pos h2, if_pos (by omega)]; grind
      · rw [if_neg h2, if_neg (by omega)]; grind
/-- LAGRANGE: what has these values is told by them. -/
theorem lag_tells {p : Int} (hF : Fl p) {a v r : Nat → Int} {m : Nat} (ha : Apart p a m) (hr : ∀ i, i < m → Mo p (r i * prodE a i (a i) m) 1) {f : Int → Int} (hf : Pol p m f) (hv : ∀ i, i < m → Mo p (f (a i)) (v i)) (x : Int) : Mo p (lag a v r m x m) (f x) :=
  Pol.unique hF (lag_pol a v r m m (Nat.le_refl _)) hf ha (fun i hi => by
    have := lag_at (v := v) hr hi m (Nat.le_refl _)
    rw [if_pos hi] at this
    exact this.trans (hv i hi).symm) x

/-- A polynomial with k + 1 coefficients, the last of which is d. -/
def Lead (p : Int) (k : Nat) (d : Int) (f : Int → Int) : Prop := ∃ g, Pol p k g ∧ ∀ x, Mo p (f x) (g x + d * x ^ k)
theorem Lead.pol {p : Int} {k : Nat} {d : Int} {f : Int → Int} : Lead p k d f → Pol p (k + 1) f := fun ⟨_, g1, g2⟩ => (g1.more.add ((Pol.pow k).scale d)).same g2
theorem Lead.diff {p : Int} {k : Nat} {d : Int} {f h : Int → Int} : Lead p k d f → Lead p k 1 h → Pol p k (fun x => f x - d * h x) := fun ⟨g, g1, g2⟩ ⟨i, i1, i2⟩ =>
  (g1.sub (i1.scale d)).same fun x => ((g2 x).sub ((Mo.refl p d).mul (i2 x))).trans (Mo.of (by grind))
theorem Lead.neville {p : Int} {k : Nat} {d e : Int} {f h : Int → Int} (a b : Int) : Lead p k d f → Lead p k e h → Lead p (k + 1) (d - e) (fun x => (x - a) * f x - (x - b) * h x) := fun hf hh => by
  have f1 := hf.pol
  have h1 := hh.pol
  obtain ⟨g, g1, g2⟩ := hf
  obtain ⟨i, i1, i2⟩ := hh
  refine ⟨fun x => (x * g x - x * i x) + ((-a) * f x - (-b) * h x), (g1.times.sub i1.times).add ((f1.scale (-a)).sub (h1.scale (-b))), fun x => ?_⟩
  have e1 := (((Mo.refl p x).mul (g2 x)).sub ((Mo.refl p x).mul (i2 x))).add (Mo.refl p ((-a) * f x - (-b) * h x))
  exact (Mo.of (by grind)).trans (e1.trans (Mo.of (by grind)))
theorem Lead.scale {p : Int} {k : Nat} {d : Int} {f : Int → Int} (c : Int) : Lead p k d f → Lead p k (c * d) (fun x => c * f x) := fun ⟨g, g1, g2⟩ => ⟨_, g1.scale c, fun x => ((Mo.refl p c).mul (g2 x)).trans (Mo.of (by grind))⟩
theorem Lead.same {p : Int} {k : Nat} {d e : Int} {f : Int → Int} (h : Mo p d e) : Lead p k d f → Lead p k e f := fun ⟨g, g1, g2⟩ => ⟨g, g1, fun x => (g2 x).trans ((Mo.refl p _).add (h.mul (Mo.refl p _)))⟩

/-- NEWTON's differences: D k i is that of the places i - k to i. -/
structure Diffs (p : Int) (a v : Nat → Int) (m : Nat) (D : Nat → Nat → Int) : Prop where
  zero : ∀ i, i < m → Mo p (D 0 i) (v i)
  step : ∀ k i, k < i → i < m → Mo p (D (k + 1) i * (a i - a (i - (k + 1)))) (D k i - D k (i - 1))
theorem Diffs.through {p : Int} (hF : Fl p) {a v : Nat → Int} {m : Nat} {D : Nat → Nat → Int} (hD : Diffs p a v m D) (ha : Apart p a m) : ∀ k i, k ≤ i → i < m → ∃ P, Lead p k (D k i) P ∧ ∀ j, i - k ≤ j → j ≤ i → Mo p (P (a j)) (v j)
  | 0, i, _, hi => ⟨fun _ => D 0 i, ⟨fun _ => 0, fun _ => Mo.refl _ _, fun x => Mo.of (by simp)⟩, fun j h1 h2 => by
    obtain rfl : j = i := by omega
    exact hD.zero j hi⟩
  | k + 1, i, hk, hi => by
    obtain ⟨P, P1, P2⟩ := Diffs.through hF hD ha k i (by omega) hi
    obtain ⟨Q, Q1, Q2⟩ := Diffs.through hF hD ha k (i - 1) (by omega) (by omega)
    obtain ⟨r, hr⟩ := hF (a i - a (i - (k + 1))) (ha i (i - (k + 1)) hi (by omega) (by omega))
    have hL := (Lead.neville (a (i - (k + 1))) (a i) P1 Q1).scale r
    have hd : Mo p (r * (D k i - D k (i - 1))) (D (k + 1) i) := by
      have e := (Mo.refl p r).mul (hD.step k i (by omega) hi).symm
      refine e.trans ((Mo.of ?_).trans (((Mo.refl p (D (k + 1) i)).mul hr).trans (Mo.of (Int.mul_one _))))
      grind
    refine ⟨_, hL.same hd, fun j h1 h2 => ?_⟩
    have key : Mo p ((a j - a (i - (k + 1))) * P (a j) - (a j - a i) * Q (a j)) ((a i - a (i - (k + 1))) * v j) := by
      by_cases e1 : j = i
      · subst e1
        have := ((Mo.refl p (a j - a (j - (k + 1)))).mul (P2 j (by omega) (Nat.le_refl _)))
        exact (Mo.of (by grind)).trans this
      · by_cases e2 : j = i - (k + 1)
        · have h3 := ((Mo.refl p (a i - a j)).mul (Q2 j (by omega) (by omega)))
          rw [← e2]
          exact (Mo.of (by grind)).trans h3
        · have h3 := ((Mo.refl p (a j - a (i - (k + 1)))).mul (P2 j (by omega) h2)).sub ((Mo.refl p (a j - a i)).mul (Q2 j (by omega) (by omega)))
          exact h3.trans (Mo.of (by grind))
    have e := (Mo.refl p r).mul key
    refine e.trans ((Mo.of ?_).trans ((hr.mul (Mo.refl p (v j))).trans (Mo.of (Int.one_mul _))))
    grind
/-- The product of the first n of x - a j. -/
def prodF (a : Nat → Int) (x : Int) : Nat → Int
  | 0 => 1
  | n + 1 => prodF a x n * (x - a n)
theorem prodF_lead {p : Int} (a : Nat → Int) : ∀ n, Lead p n 1 (fun x => prodF a x n)
  | 0 => ⟨fun _ => 0, fun _ => Mo.refl _ _, fun x => Mo.of (by simp [prodF])⟩
  | n + 1 => by
    have hp := (prodF_lead (p := p) a n).pol
    obtain ⟨g, g1, g2⟩ := prodF_lead (p := p) a n
    refine ⟨fun x => x * g x + (-(a n)) * prodF a x n, g1.times.add (hp.scale _), fun x => ?_⟩
    have e := ((Mo.refl p x).mul (g2 x)).add (Mo.refl p ((-(a n)) * prodF a x n))
    exact (Mo.of (by simp only [prodF]; grind)).trans (e.trans (Mo.of (by grind)))
theorem prodF_zero {a : Nat → Int} {j : Nat} : ∀ {n}, j < n → prodF a (a j) n = 0
  | 0, h => by omega
  | n + 1, h => by
    simp only [prodF]
    rcases Nat.lt_or_ge j n with h1 | h1
    · rw [prodF_zero h1]; omega
    · obtain rfl : j = n := by omega
      grind
/-- NEWTON's polynomial. -/
def newt (a : Nat → Int) (D : Nat → Nat → Int) (x : Int) : Nat → Int
  | 0 => 0
  | n + 1 => newt a D x n + D n n * prodF a x n
theorem newt_pol {p : Int} (a : Nat → Int) (D : Nat → Nat → Int) : ∀ n, Pol p n (fun x => newt a D x n)
  | 0 => fun _ => Mo.refl _ _
  | n + 1 => ((newt_pol a D n).more.add ((prodF_lead a n).pol.scale (D n n))).same fun _ => Mo.refl _ _
theorem newt_at {p : Int} (hF : Fl p) {a v : Nat → Int} {m : Nat} {D : Nat → Nat → Int} (hD : Diffs p a v m D) (ha : Apart p a m) : ∀ n, n ≤ m → ∀ j, j < n → Mo p (newt a D (a j) n) (v j)
  | 0, _, j, h => by omega
  | n + 1, hn, j, hj => by
    obtain ⟨P, P1, P2⟩ := Diffs.through hF hD ha n n (Nat.le_refl _) (by omega)
    have hq := P1.diff (prodF_lead a n)
    have ih := newt_at hF hD ha n (by omega)
    have hu := Pol.unique hF hq (newt_pol a D n) (fun i j hi hj => ha i j (by omega) (by omega)) (fun i hi => by
      refine Mo.trans ?_ (ih i hi).symm
      have := P2 i (by omega) (by omega)
      refine Mo.trans (Mo.of ?_) this
      simp only [prodF_zero hi]; omega) (a j)
    refine Mo.trans ?_ (P2 j (by omega) (by omega))
    have := hu.symm.add (Mo.refl p (D n n * prodF a (a j) n))
    exact this.trans (Mo.of (by omega))
/-- NEWTON's polynomial as it is reckoned, from the last place down. -/
def horn (a : Nat → Int) (D : Nat → Nat → Int) (m : Nat) (x : Int) : Nat → Int
  | 0 => 0
  | n + 1 => horn a D m x n * (x - a (m - 1 - n)) + D (m - 1 - n) (m - 1 - n)
theorem horn_newt (a : Nat → Int) (D : Nat → Nat → Int) (m : Nat) (x : Int) : ∀ n, n ≤ m → newt a D x m = newt a D x (m - n) + prodF a x (m - n) * horn a D m x n
  | 0, _ => by simp [horn]
  | n + 1, h => by
    have ih := horn_newt a D m x n (by omega)
    have e : m - n = (m - 1 - n) + 1 := by omega
    rw [ih, e, show m - (n + 1) = m - 1 - n by omega]
    simp only [newt, prodF, horn]
    grind
theorem horn_all (a : Nat → Int) (D : Nat → Nat → Int) (m : Nat) (x : Int) : horn a D m x m = newt a D x m := by
  have := horn_newt a D m x m (Nat.le_refl _)
  rw [this]; simp [newt, prodF]

/-- FERMAT, looked through up to 997. -/
def primB (n : Nat) : Bool := decide (2 ≤ n) && (List.range 32).all fun d => d < 2 || n < d * d || n % d != 0
theorem fermat_all : (List.range 998).all (fun p => !primB p || (List.range p).all fun n => n == 0 || n ^ (p - 2) % p * n % p == 1) = true := by decide +kernel
end Go.Proofs.YtdlbnolnkmhdcaaDoor
