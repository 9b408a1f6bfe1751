/- (sum).told by lists; logs.Of at any fraction. -/
import Derived.Test.YtgaamcmjonngjaaDoorPutF
import Derived.Test.YtgaamcmjonngjaaDoorValidWalk
namespace Go.Proofs.YtgaamcmjonngjaaDoor
open Go.RowKit Go.Maps

/-- A logarithm that was made here: its terms lie at the head of a row of their own. -/
def OwnAt (w : World) (v : Value) (n : Nat) (p c : Nat → Int) : Prop := (v = .slice none 0 0 ∧ n = 0) ∨ ∃ g cap, v = .slice (some ⟨g, 0, none⟩) n cap ∧ TermsAt w g 0 n p c
theorem ownAt_of_row {w : World} {base : Nat} {v : Value} {n : Nat} {p c : Nat → Int} (h : w.ownsRow base 161 2 v n (termCells p c n)) : OwnAt w v n p c := by
  have h' := h
  rcases h.2 with ⟨rfl, h0⟩ | ⟨g, cap, cur, rfl, _⟩
  · exact Or.inl ⟨rfl, h0⟩
  · exact Or.inr ⟨g, cap, rfl, termsAt_of_row h'⟩
theorem OwnAt.later {w w' : World} {v : Value} {n : Nat} {p c : Nat → Int} (h : OwnAt w v n p c) (hb : Below w.heap.size w w') : OwnAt w' v n p c := own_later h hb
/-- A logarithm by its list. -/
def ListAt (w : World) (v : Value) (t : List (Int × Int)) : Prop := OwnAt w v t.length (pOf t) (cOf t)

theorem getD_fst {l : List (Int × Int)} {i : Nat} (h : i < l.length) : (l.map Prod.fst).getD i 0 = (l.getD i (0, 0)).1 := by
  simp only [List.getD_eq_getElem?_getD, List.getElem?_map]
  rw [List.getElem?_eq_getElem h]
  rfl

/-- told: a sum that has a form. -/
theorem told_list (den : Int) (b nn : Nat) (l : List (Int × Int)) (w : World) (hown : w.ownsMap Tryd.prog 3 (plainElem (H := Unit) Tryd.prog 3) b nn (mapOf l)) (hr : Rising l) (hk : ∀ e ∈ l, 2 ≤ e.1 ∧ e.1 ≤ 1000000) (hlen : l.length ≤ 100000)
    (hb : ∀ x, -2305843009213693952 ≤ atL l x ∧ atL l x ≤ 2305843009213693952) (hd1 : 1 ≤ den) (hd2 : den ≤ 1000000000000) (G : Nat) (hG : gcdL den (atL l) (l.map Prod.fst) l.length = G) (hdq : den / (G : Int) ≤ 1000000) (hq : ∀ e ∈ l, (e.2.tdiv (G : Int)).natAbs ≤ 1099511627776) :
    Calls Tryd.prog 78 #[.agg #[.int .i64 den, .map (some b)]] w fun e w' => ∃ v, e = .returned (.tuple #[.agg #[.int .i64 (den / (G : Int)), v], .nilIface]) ∧ w'.ownsRow w.heap.size 161 2 v (overL G l).length (termCells (pOf (overL G l)) (cOf (overL G l)) (overL G l).length) ∧ Below w.heap.size w w' := by
  have hcf : ∀ e ∈ l, atL l e.1 = e.2 := fun e he => atL_mem hr he
  have ht := terms_flat (atL l) G l hcf
  have := told_ok den b nn (mapOf l) (atL l) (l.map Prod.fst) w hown (at_map l) (sort_keys hr) (by rw [size_map]; exact hlen) (by rw [List.length_map]; exact hlen)
    (fun x hx => by obtain ⟨e, he, rfl⟩ := List.mem_map.1 hx; have := hk e he; exact wf_int (by omega)) hd1 hd2 hb G (by rw [List.length_map]; exact hG) hdq
    (fun x hx => by obtain ⟨e, he, rfl⟩ := List.mem_map.1 hx; unfold quo; rw [hcf e he]; exact hq e he)
  rw [ht.1, ht.2, flat_cells] at this
  exact this

theorem gcdTo_one (c : Nat → Int) : ∀ k, gcdTo 1 c k = 1
  | 0 => rfl
  | k + 1 => by
    show Int.gcd (gcdTo 1 c k : Int) (c k) = 1
    rw [gcdTo_one c k]
    simp [Int.gcd]
theorem overL_one {l : List (Int × Int)} {e : Int × Int} (h : e ∈ overL 1 l) : e ∈ l := by
  obtain ⟨f, hf, rfl⟩ := mem_over h
  simpa using hf

/-- In form, by the list. -/
theorem okLog_list {den : Int} {t : List (Int × Int)} (hr : Rising t) (ht : ∀ e ∈ t, TermOk e.1 e.2) (hd1 : 1 ≤ den) (hd6 : den ≤ 1000000) (hg : gcdTo den (cOf t) t.length = 1) : OkLog den t.length (pOf t) (cOf t) := by
  refine ⟨hd1, hd6, fun i hi => ⟨?_, ht _ (getD_mem hi)⟩, hg⟩
  cases i with
  | zero =>
    show (1 : Int) < pOf t 0
    have := (ht _ (getD_mem hi)).2.2.2.2.1
    show (1 : Int) < (t.getD 0 (0, 0)).1
    omega
  | succ i =>
    show pOf t i < pOf t (i + 1)
    have := List.pairwise_iff_getElem.1 hr i (i + 1) (by omega) hi (by omega)
    simp only [pOf, List.getD_eq_getElem?_getD]
    rw [List.getElem?_eq_getElem hi, List.getElem?_eq_getElem (show i < t.length by omega)]
    exact this

theorem fresh_inPut {w w' : World} {b : Nat} {t : Int} {l0 l : List (Int × Int)} {n0 nn0 n k : Nat} (h : InPut w w' b t l0 n0 nn0 n l k) (hn : n = 1) : ∀ x, atL l x = atL l0 x + t * multI x n0 := fun x => by
  have := h.val x
  rw [hn, multI_one, Int.mul_zero, Int.add_zero] at this
  exact this
theorem log2_of {k n : Nat} (h : 2 ^ k * 1 ≤ n) (h6 : n ≤ 1000) : k ≤ 9 := by
  rcases Nat.lt_or_ge 9 k with h' | h'
  · have h2 : 2 ^ 10 ≤ 2 ^ k := Nat.pow_le_pow_right (by decide) h'
    have h3 : (2 : Nat) ^ 10 = 1024 := by decide
    omega
  · exact h'
theorem log2_of6 {k n : Nat} (h : 2 ^ k * 1 ≤ n) (h6 : n ≤ 1000000) : k ≤ 19 := by
  rcases Nat.lt_or_ge 19 k with h' | h'
  · have h2 : 2 ^ 20 ≤ 2 ^ k := Nat.pow_le_pow_right (by decide) h'
    have h3 : (2 : Nat) ^ 20 = 1048576 := by decide
    omega
  · exact h'

/-- What Of tells. -/
structure IsOf (a b : Nat) (t : List (Int × Int)) : Prop where
  rise : Rising t
  nz : ∀ e ∈ t, e.2 ≠ 0
  val : ∀ x, atL t x = multI x a - multI x b
  len : ∃ k j, 2 ^ k * 1 ≤ a ∧ 2 ^ j * 1 ≤ b ∧ t.length ≤ k + j

theorem IsOf.terms {a b : Nat} {t : List (Int × Int)} (h : IsOf a b t) (ha : 0 < a) (ha6 : a ≤ 1000000) (hb : 0 < b) (hb6 : b ≤ 1000000) : ∀ e ∈ t, TermOk e.1 e.2 ∧ -19 ≤ e.2 ∧ e.2 ≤ 19 := fun e he => by
  have h1 := atL_mem h.rise he
  rw [h.val] at h1
  have h2 := h.nz e he
  have h3 := multI_nonneg e.1 a
  have h4 := multI_le e.1 ha ha6
  have h5 := multI_nonneg e.1 b
  have h6 := multI_le e.1 hb hb6
  have h7 : Pr e.1.toNat ∧ 2 ≤ e.1 ∧ e.1 ≤ 1000000 := by
    by_cases hz : multI e.1 a = 0
    · obtain ⟨q1, q2, q3⟩ := multI_support (x := e.1) hb (by omega)
      exact ⟨q1, q2, by omega⟩
    · obtain ⟨q1, q2, q3⟩ := multI_support ha hz
      exact ⟨q1, q2, by omega⟩
  exact ⟨⟨h7.2.2, h2, by omega, by omega, h7.2.1, h7.1⟩, by omega, by omega⟩
theorem IsOf.ok {a b : Nat} {t : List (Int × Int)} (h : IsOf a b t) (ha : 0 < a) (ha6 : a ≤ 1000000) (hb : 0 < b) (hb6 : b ≤ 1000000) : OkLog 1 t.length (pOf t) (cOf t) :=
  okLog_list h.rise (fun e he => (h.terms ha ha6 hb hb6 e he).1) (by omega) (by omega) (gcdTo_one _ _)

end Go.Proofs.YtgaamcmjonngjaaDoor
