/- What is found by looking on from what is found. Plain lists. -/
import Derived.Test.YtlnhpkmcinohdaaDoorReachMath
namespace Go.Proofs.YtlnhpkmcinohdaaDoor

theorem nodup_le : ∀ (n : Nat) (l : List Nat), l.Nodup → (∀ x, x ∈ l → x < n) → l.length ≤ n
  | 0, l, _, h => by
    cases l with
    | nil => simp
    | cons a r => exact absurd (h a (by simp)) (by omega)
  | n + 1, l, hn, h => by
    by_cases hm : n ∈ l
    · have h1 := nodup_le n (l.erase n) (hn.erase n) (fun x hx => by
        have := (hn.mem_erase_iff).1 hx
        have := h x this.2
        omega)
      rw [List.length_erase_of_mem hm] at h1
      omega
    · have h1 := nodup_le n l hn (fun x hx => by
        have := h x hx
        have : x ≠ n := fun e => hm (e ▸ hx)
        omega)
      omega

/-- Found from a state, by a step at least, not going on from one of them: the least set that has the first steps and is closed under steps from elsewhere. -/
def Found (e : Nat → Nat → Bool) (n : Nat) (wall : Int) (i k : Nat) : Prop :=
  ∀ R : Nat → Prop, (∀ k, k < n → e i k = true → R k) → (∀ j k, R j → (j : Int) ≠ wall → k < n → e j k = true → R k) → R k
theorem Found.one {e : Nat → Nat → Bool} {n i k : Nat} {wall : Int} (hk : k < n) (he : e i k = true) : Found e n wall i k := fun _ h1 _ => h1 k hk he
theorem Found.more {e : Nat → Nat → Bool} {n i j k : Nat} {wall : Int} (h : Found e n wall i j) (hw : (j : Int) ≠ wall) (hk : k < n) (he : e j k = true) : Found e n wall i k := fun R h1 h2 => h2 j k (h R h1 h2) hw hk he
theorem Found.ind {e : Nat → Nat → Bool} {n i : Nat} {wall : Int} {R : Nat → Prop} (h1 : ∀ k, k < n → e i k = true → R k) (h2 : ∀ j k, Found e n wall i j → R j → (j : Int) ≠ wall → k < n → e j k = true → R k) {k : Nat} (h : Found e n wall i k) : R k :=
  (h (fun k => Found e n wall i k ∧ R k) (fun k hk he => ⟨.one hk he, h1 k hk he⟩) (fun j k h' hw hk he => ⟨.more h'.1 hw hk he, h2 j k h'.1 h'.2 hw hk he⟩)).2
theorem Found.lt {e : Nat → Nat → Bool} {n i k : Nat} {wall : Int} (h : Found e n wall i k) : k < n := Found.ind (R := fun k => k < n) (fun _ hk _ => hk) (fun _ _ _ _ _ hk _ => hk) h
theorem found_way {e : Nat → Nat → Bool} {n i k : Nat} {wall : Int} (hi : i < n) (h : Found e n wall i k) : Way e n i k :=
  Found.ind (R := fun k => Way e n i k) (fun _ hk he => .one hi hk he) (fun _ _ _ ih _ hk he => ih.last hk he) h
theorem way_found {e : Nat → Nat → Bool} {n i j : Nat} (h : Way e n i j) : Found e n (-1) i j := by
  suffices H : ∀ {a b : Nat}, Way e n a b → ∀ i : Nat, (Found e n (-1) i a ∨ i = a) → Found e n (-1) i b from H h i (Or.inr rfl)
  intro a b h
  refine Way.ind (R := fun a b => ∀ i : Nat, (Found e n (-1) i a ∨ i = a) → Found e n (-1) i b) ?_ ?_ h
  · intro a k _ hk he i hi
    rcases hi with hi | rfl
    · exact .more hi (by omega) hk he
    · exact .one hk he
  · intro a j k _ hj he _ ih i hi
    rcases hi with hi | rfl
    · exact ih i (Or.inl (.more hi (by omega) hj he))
    · exact ih i (Or.inl (.one hj he))
theorem found_iff {e : Nat → Nat → Bool} {n i k : Nat} (hi : i < n) : Found e n (-1) i k ↔ Way e n i k := ⟨found_way hi, way_found⟩

/-- The list while one looks on: behind t of them, all steps of those are in it. -/
structure Looks (e : Nat → Nat → Bool) (n : Nat) (wall : Int) (i t : Nat) (l : List Nat) : Prop where
  nd : l.Nodup
  ok : ∀ k, k ∈ l → Found e n wall i k
  first : ∀ k, k < n → e i k = true → k ∈ l
  on : ∀ s, s < t → ∀ h : s < l.length, ((l[s] : Nat) : Int) ≠ wall → ∀ k, k < n → e l[s] k = true → k ∈ l
theorem Looks.len {e : Nat → Nat → Bool} {n i t : Nat} {wall : Int} {l : List Nat} (h : Looks e n wall i t l) : l.length ≤ n := nodup_le n l h.nd (fun x hx => (h.ok x hx).lt)
theorem Looks.done {e : Nat → Nat → Bool} {n i t : Nat} {wall : Int} {l : List Nat} (h : Looks e n wall i t l) (ht : l.length ≤ t) (k : Nat) : k ∈ l ↔ Found e n wall i k := by
  refine ⟨h.ok k, Found.ind (R := fun k => k ∈ l) (fun _ hk he => h.first _ hk he) (fun j k _ ih hw hk he => ?_)⟩
  obtain ⟨s, hs, hse⟩ := List.mem_iff_getElem.1 ih
  exact h.on s (by omega) hs (by rw [hse]; exact hw) _ hk (by rw [hse]; exact he)
/-- One more at the end. -/
theorem Looks.push {e : Nat → Nat → Bool} {n i t k : Nat} {wall : Int} {l : List Nat} (h : Looks e n wall i t l) (ht : t ≤ l.length) (hk : k ∉ l) (hf : Found e n wall i k) : Looks e n wall i t (l ++ [k]) := by
  refine ⟨?_, ?_, fun k' h1 h2 => by simp [h.first k' h1 h2], fun s hs hl hw k' h1 h2 => ?_⟩
  · rw [List.nodup_append]
    exact ⟨h.nd, by simp, by simp; intro a ha e; exact hk (e ▸ ha)⟩
  · intro k' hk'
    simp at hk'
    rcases hk' with hk' | rfl
    · exact h.ok k' hk'
    · exact hf
  · have hsl : s < l.length := by omega
    rw [List.getElem_append_left hsl] at hw h2
    simp [h.on s hs hsl hw k' h1 h2]
/-- The steps of the next one are all in it. -/
theorem Looks.next {e : Nat → Nat → Bool} {n i t : Nat} {wall : Int} {l : List Nat} (h : Looks e n wall i t l) (ht : t < l.length) (ha : ((l[t] : Nat) : Int) ≠ wall → ∀ k, k < n → e l[t] k = true → k ∈ l) : Looks e n wall i (t + 1) l := by
  refine ⟨h.nd, h.ok, h.first, fun s hs hl hw k hk he => ?_⟩
  rcases Nat.lt_or_ge s t with h' | h'
  · exact h.on s h' hl hw k hk he
  · obtain rfl : s = t := by omega
    exact ha hw k hk he
/-- The first ones. -/
def firstL (e : Nat → Nat → Bool) (i : Nat) : Nat → List Nat
  | 0 => []
  | k + 1 => if e i k = true then firstL e i k ++ [k] else firstL e i k
theorem firstL_mem (e : Nat → Nat → Bool) (i : Nat) : ∀ n k, k ∈ firstL e i n ↔ k < n ∧ e i k = true
  | 0, k => by simp [firstL]
  | n + 1, k => by
    rw [firstL]
    split
    · rename_i h
      simp only [List.mem_append, firstL_mem e i n k, List.mem_singleton]
      constructor
      · rintro (⟨h1, h2⟩ | rfl)
        · exact ⟨by omega, h2⟩
        · exact ⟨by omega, h⟩
      · rintro ⟨h1, h2⟩
        rcases Nat.lt_or_ge k n with h' | h'
        · exact Or.inl ⟨h', h2⟩
        · exact Or.inr (by omega)
    · rename_i h
      rw [firstL_mem e i n k]
      constructor
      · rintro ⟨h1, h2⟩; exact ⟨by omega, h2⟩
      · rintro ⟨h1, h2⟩
        rcases Nat.lt_or_ge k n with h' | h'
        · exact ⟨h', h2⟩
        · obtain rfl : k = n := by omega
          exact absurd h2 h
theorem firstL_nodup (e : Nat → Nat → Bool) (i : Nat) : ∀ n, (firstL e i n).Nodup
  | 0 => by simp [firstL]
  | n + 1 => by
    rw [firstL]
    split
    · rw [List.nodup_append]
      exact ⟨firstL_nodup e i n, by simp, by simp; intro a ha e; have := ((firstL_mem _ i n a).1 ha).1; omega⟩
    · exact firstL_nodup e i n
theorem looks_start (e : Nat → Nat → Bool) (n : Nat) (wall : Int) (i : Nat) : Looks e n wall i 0 (firstL e i n) :=
  ⟨firstL_nodup e i n, fun k hk => by have := (firstL_mem e i n k).1 hk; exact .one this.1 this.2, fun k h1 h2 => (firstL_mem e i n k).2 ⟨h1, h2⟩, fun s hs => by omega⟩
end Go.Proofs.YtlnhpkmcinohdaaDoor
