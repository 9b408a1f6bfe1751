/- SHANNON: two at once have at least as many as both, multiplied; and no more than either allows. Plain functions. -/
import Derived.Test.YtojljmapdafmaaaDoorZeADM
import Derived.Test.YtojljmapdafmaaaDoorZeJoin
namespace Go.Proofs.YtojljmapdafmaaaDoor

/-- How many of a list have each value of a function. -/
theorem count_by (f : Nat → Nat) : ∀ (n : Nat) (l : List Nat) (c : Nat), (∀ x ∈ l, f x < n) → (∀ i, i < n → (l.filter fun x => f x == i).length ≤ c) → l.length ≤ n * c
  | 0, l, c, h, _ => by
    rcases l with _ | ⟨x, l⟩
    · simp
    · have := h x List.mem_cons_self; omega
  | n + 1, l, c, h, hc => by
    have h1 := count_by f n (l.filter fun x => !(f x == n)) c (fun x hx => by
      obtain ⟨h2, h3⟩ := List.mem_filter.1 hx
      have := h x h2
      simp at h3
      omega) (fun i hi => by
      have h2 := hc i (by omega)
      refine Nat.le_trans (List.Sublist.length_le ?_) h2
      exact (List.filter_sublist).filter _)
    have h2 := hc n (by omega)
    have h3 : l.length = (l.filter fun x => f x == n).length + (l.filter fun x => !(f x == n)).length := by
      have := List.length_eq_countP_add_countP (fun x => f x == n) (l := l)
      rw [List.countP_eq_length_filter, List.countP_eq_length_filter] at this
      have e : (fun a => decide (¬ (f a == n) = true)) = fun x => !(f x == n) := funext fun a => by cases f a == n <;> rfl
      rw [e] at this
      exact this
    rw [h3, Nat.succ_mul]
    omega
theorem map_asc {n : Nat} {f : Nat → Nat} : ∀ {l : List Nat}, l.Pairwise (· < ·) → (∀ x ∈ l, ∀ y ∈ l, x < y → f x < f y) → (∀ x ∈ l, f x < n) → Asc n (l.map f)
  | [], _, _, _ => ⟨List.Pairwise.nil, fun _ h => by cases h⟩
  | x :: l, h, hf, hn => by
    obtain ⟨h1, h2⟩ := List.pairwise_cons.1 h
    obtain ⟨g1, g2⟩ := map_asc (n := n) (f := f) h2 (fun a ha b hb => hf a (List.mem_cons_of_mem _ ha) b (List.mem_cons_of_mem _ hb)) (fun a ha => hn a (List.mem_cons_of_mem _ ha))
    refine ⟨List.pairwise_cons.2 ⟨fun y hy => ?_, g1⟩, fun y hy => ?_⟩
    · obtain ⟨z, hz, rfl⟩ := List.mem_map.1 hy
      exact hf x List.mem_cons_self z (List.mem_cons_of_mem _ hz) (h1 z hz)
    · rcases List.mem_cons.1 hy with rfl | hy
      · exact hn x List.mem_cons_self
      · exact g2 y hy
/-- The pairs of two lists, as numbers. -/
def prodL (n : Nat) (x y : List Nat) : List Nat := x.flatMap fun i => y.map fun k => i * n + k
theorem prodL_length (n : Nat) (y : List Nat) : ∀ x : List Nat, (prodL n x y).length = x.length * y.length
  | [] => by simp [prodL]
  | i :: x => by
    have := prodL_length n y x
    simp only [prodL, List.flatMap_cons, List.length_append, List.length_map] at this ⊢
    rw [this, List.length_cons, Nat.succ_mul, Nat.add_comm]
theorem mem_prodL {n : Nat} {x y : List Nat} {v : Nat} : v ∈ prodL n x y ↔ ∃ i, i ∈ x ∧ ∃ k, k ∈ y ∧ i * n + k = v := by
  simp [prodL]
theorem prodL_asc {n1 n : Nat} {y : List Nat} (hy : Asc n y) : ∀ {x : List Nat}, Asc n1 x → Asc (n1 * n) (prodL n x y)
  | [], _ => ⟨List.Pairwise.nil, fun _ h => by cases h⟩
  | i :: x, hx => by
    obtain ⟨g1, g2⟩ := prodL_asc hy hx.tail
    have hi := hx.head
    have e : prodL n (i :: x) y = (y.map fun k => i * n + k) ++ prodL n x y := by simp [prodL]
    rw [e]
    refine ⟨List.pairwise_append.2 ⟨List.pairwise_map.2 (hy.1.imp fun h => Nat.add_lt_add_left h _), g1, fun a ha b hb => ?_⟩, fun v hv => ?_⟩
    · obtain ⟨k, hk, rfl⟩ := List.mem_map.1 ha
      obtain ⟨j, hj, l, hl, rfl⟩ := mem_prodL.1 hb
      have h1 := hy.2 k hk
      have h2 := hi.2 j hj
      have h3 : (i + 1) * n ≤ j * n := Nat.mul_le_mul_right _ h2
      rw [Nat.succ_mul] at h3
      omega
    · rcases List.mem_append.1 hv with h | h
      · obtain ⟨k, hk, rfl⟩ := List.mem_map.1 h
        have h1 := hy.2 k hk
        have h3 : (i + 1) * n ≤ n1 * n := Nat.mul_le_mul_right _ hi.1
        rw [Nat.succ_mul] at h3
        omega
      · exact g2 v h
theorem div_pair {n i k : Nat} (hk : k < n) : (i * n + k) / n = i ∧ (i * n + k) % n = k := by
  have h0 : 0 < n := by omega
  constructor
  · rw [Nat.mul_comm, Nat.mul_add_div h0, Nat.div_eq_of_lt hk, Nat.add_zero]
  · rw [Nat.mul_comm, Nat.mul_add_mod, Nat.mod_eq_of_lt hk]
/-- Sets of which no two are joined. -/
def Apart (J : Nat → Nat → Bool) (n : Nat) (t : List Nat) : Prop := Asc n t ∧ ∀ a ∈ t, ∀ b ∈ t, a < b → J a b = false
/-- Two at once. -/
theorem shannon {JA JB JS : Nat → Nat → Bool} {n1 n2 cA cB cS : Nat} (x y z : List Nat) (hx : Apart JA n1 x) (hy : Apart JB n2 y) (hz : Apart JS (n1 * n2) z)
    (mA : ∀ t, Apart JA n1 t → t.length ≤ cA) (mB : ∀ t, Apart JB n2 t → t.length ≤ cB) (mS : ∀ t, Apart JS (n1 * n2) t → t.length ≤ cS) (hcA : x.length = cA) (hcB : y.length = cB) (hcS : z.length = cS)
    (sA : ∀ a b, JA a b = JA b a)
    (hJ : ∀ v w, v < n1 * n2 → w < n1 * n2 → v < w → JS v w = ((decide (v / n2 = w / n2) || JA (v / n2) (w / n2)) && (decide (v % n2 = w % n2) || JB (v % n2) (w % n2)))) :
    cA * cB ≤ cS ∧ cS ≤ n1 * cB ∧ cS ≤ cA * n2 := by
  subst hcA hcB hcS
  refine ⟨?_, ?_, ?_⟩
  · rw [← prodL_length n2]
    refine mS _ ⟨prodL_asc hy.1 hx.1, fun v hv w hw hvw => ?_⟩
    have hpa := prodL_asc hy.1 hx.1
    rw [hJ v w (hpa.2 v hv) (hpa.2 w hw) hvw]
    obtain ⟨i, hi, k, hk, rfl⟩ := mem_prodL.1 hv
    obtain ⟨j, hj, l, hl, rfl⟩ := mem_prodL.1 hw
    obtain ⟨e1, e2⟩ := div_pair (i := i) (hy.1.2 k hk)
    obtain ⟨e3, e4⟩ := div_pair (i := j) (hy.1.2 l hl)
    rw [e1, e2, e3, e4]
    by_cases hij : i = j
    · subst hij
      have hkl : k < l := by omega
      rw [decide_eq_false (show ¬ k = l by omega), hy.2 k hk l hl hkl]
      simp
    · have hA : JA i j = false := by
        rcases Nat.lt_or_gt_of_ne hij with h | h
        · exact hx.2 i hi j hj h
        · rw [sA]; exact hx.2 j hj i hi h
      rw [decide_eq_false hij, hA]
      rfl
  · rcases Nat.eq_zero_or_pos n2 with h0 | h0
    · have hz0 : z = [] := by
        rcases z with _ | ⟨v, z⟩
        · rfl
        · have := hz.1.2 v List.mem_cons_self
          rw [h0, Nat.mul_zero] at this
          omega
      rw [hz0]; exact Nat.zero_le _
    · refine count_by (fun v => v / n2) n1 z y.length (fun v hv => (Nat.div_lt_iff_lt_mul h0).2 (hz.1.2 v hv)) fun i _ => ?_
      have hs := hz.1.1.filter fun v => v / n2 == i
      have mem : ∀ v, v ∈ z.filter (fun v => v / n2 == i) → v ∈ z ∧ v / n2 = i := fun v hv => by
        obtain ⟨h1, h2⟩ := List.mem_filter.1 hv
        exact ⟨h1, by simpa using h2⟩
      have hlt : ∀ v ∈ z.filter (fun v => v / n2 == i), ∀ w ∈ z.filter (fun v => v / n2 == i), v < w → v % n2 < w % n2 := fun v hv w hw hvw => by
        have a1 := (mem v hv).2
        have a2 := (mem w hw).2
        have b1 := Nat.div_add_mod v n2
        have b2 := Nat.div_add_mod w n2
        rw [a1] at b1
        rw [a2] at b2
        omega
      rw [← List.length_map (f := fun v => v % n2)]
      refine mB _ ⟨map_asc hs hlt fun v _ => Nat.mod_lt _ h0, fun a ha b hb hab => ?_⟩
      obtain ⟨v, hv, rfl⟩ := List.mem_map.1 ha
      obtain ⟨w, hw, rfl⟩ := List.mem_map.1 hb
      obtain ⟨a1, a2⟩ := mem v hv
      obtain ⟨b1, b2⟩ := mem w hw
      have hvw : v < w := by
        rcases Nat.lt_trichotomy v w with h | h | h
        · exact h
        · subst h; exact absurd hab (Nat.lt_irrefl _)
        · have := hlt w hw v hv h; exact absurd hab (by omega)
      have h1 := hz.2 v a1 w b1 hvw
      rw [hJ v w (hz.1.2 v a1) (hz.1.2 w b1) hvw, a2, b2] at h1
      have h2 : decide (v % n2 = w % n2) = false := decide_eq_false (by omega)
      rw [h2] at h1
      simpa using h1
  · rcases Nat.eq_zero_or_pos n2 with h0 | h0
    · have hz0 : z = [] := by
        rcases z with _ | ⟨v, z⟩
        · rfl
        · have := hz.1.2 v List.mem_cons_self
          rw [h0, Nat.mul_zero] at this
          omega
      rw [hz0]; exact Nat.zero_le _
    · rw [Nat.mul_comm]
      refine count_by (fun v => v % n2) n2 z x.length (fun v _ => Nat.mod_lt _ h0) fun k _ => ?_
      have hs := hz.1.1.filter fun v => v % n2 == k
      have mem : ∀ v, v ∈ z.filter (fun v => v % n2 == k) → v ∈ z ∧ v % n2 = k := fun v hv => by
        obtain ⟨h1, h2⟩ := List.mem_filter.1 hv
        exact ⟨h1, by simpa using h2⟩
      have hlt : ∀ v ∈ z.filter (fun v => v % n2 == k), ∀ w ∈ z.filter (fun v => v % n2 == k), v < w → v / n2 < w / n2 := fun v hv w hw hvw => by
        have a1 := (mem v hv).2
        have a2 := (mem w hw).2
        have b1 := Nat.div_add_mod v n2
        have b2 := Nat.div_add_mod w n2
        rw [a1] at b1
        rw [a2] at b2
        rcases Nat.lt_or_ge (v / n2) (w / n2) with h | h
        · exact h
        · have := Nat.mul_le_mul_left n2 h
          omega
      rw [← List.length_map (f := fun v => v / n2)]
      refine mA _ ⟨map_asc hs hlt fun v hv => (Nat.div_lt_iff_lt_mul h0).2 (hz.1.2 v (mem v hv).1), fun a ha b hb hab => ?_⟩
      obtain ⟨v, hv, rfl⟩ := List.mem_map.1 ha
      obtain ⟨w, hw, rfl⟩ := List.mem_map.1 hb
      obtain ⟨a1, a2⟩ := mem v hv
      obtain ⟨b1, b2⟩ := mem w hw
      have hvw : v < w := by
        rcases Nat.lt_trichotomy v w with h | h | h
        · exact h
        · subst h; exact absurd hab (Nat.lt_irrefl _)
        · have := hlt w hw v hv h; exact absurd hab (by omega)
      have h1 := hz.2 v a1 w b1 hvw
      rw [hJ v w (hz.1.2 v a1) (hz.1.2 w b1) hvw, a2, b2] at h1
      have h2 : decide (v / n2 = w / n2) = false := decide_eq_false (by omega)
      rw [h2] at h1
      simpa using h1
end Go.Proofs.YtojljmapdafmaaaDoor
