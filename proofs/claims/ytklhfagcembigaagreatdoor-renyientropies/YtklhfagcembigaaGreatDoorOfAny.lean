/- (sum).told by lists; logs.Of at any fraction. -/
import Derived.Test.YtklhfagcembigaaGreatDoorPutF
import Derived.Test.YtklhfagcembigaaGreatDoorValidWalk
namespace Go.Proofs.YtklhfagcembigaaGreatDoor
open Go.RowKit Go.Maps

/-- A logarithm that was made here: its terms lie at the head of a row of their own. -/
def OwnAt (w : World) (v : Value) (n : Nat) (p c : Nat → Int) : Prop := (v = .slice none 0 0 ∧ n = 0) ∨ ∃ g cap, v = .slice (some ⟨g, 0, none⟩) n cap ∧ TermsAt w g 0 n p c
theorem ownAt_of_row {w : World} {base : Nat} {v : Value} {n : Nat} {p c : Nat → Int} (h : w.ownsRow base 90 2 v n (termCells p c n)) : OwnAt w v n p c := by
  have h' := h
  rcases h.2 with ⟨rfl, h0⟩ | ⟨g, cap, cur, rfl, _⟩
  · exact Or.inl ⟨rfl, h0⟩
  · exact Or.inr ⟨g, cap, rfl, termsAt_of_row h'⟩
theorem OwnAt.later {w w' : World} {v : Value} {n : Nat} {p c : Nat → Int} (h : OwnAt w v n p c) (hb : Below w.heap.size w w') : OwnAt w' v n p c := own_later h hb
/-- A logarithm by its list. -/
def ListAt (w : World) (v : Value) (t : List (Int × Int)) : Prop := OwnAt w v t.length (pOf t) (cOf t)

theorem getD_fst {l : List (Int × Int)} {i : Nat} (h : i < l.length) : (l.map Prod.fst).getD i 0 = (l.getD i (0, 0)).1 := by
  simp only [List.getD_eq_getElem?_getD, List.getElem?_map]
  rw [List.getElem?_eq_getElem h]
  rfl

/-- told: a sum that has a form. -/
theorem told_list (den : Int) (b nn : Nat) (l : List (Int × Int)) (w : World) (hown : w.ownsMap Tryz.prog 3 (plainElem (H := Unit) Tryz.prog 3) b nn (mapOf l)) (hr : Rising l) (hk : ∀ e ∈ l, 2 ≤ e.1 ∧ e.1 ≤ 1000000) (hlen : l.length ≤ 100000)
    (hb : ∀ x, -2305843009213693952 ≤ atL l x ∧ atL l x ≤ 2305843009213693952) (hd1 : 1 ≤ den) (hd2 : den ≤ 1000000000000) (G : Nat) (hG : gcdL den (atL l) (l.map Prod.fst) l.length = G) (hdq : den / (G : Int) ≤ 1000000) (hq : ∀ e ∈ l, (e.2.tdiv (G : Int)).natAbs ≤ 1099511627776) :
    Calls Tryz.prog 53 #[.agg #[.int .i64 den, .map (some b)]] w fun e w' => ∃ v, e = .returned (.tuple #[.agg #[.int .i64 (den / (G : Int)), v], .nilIface]) ∧ w'.ownsRow w.heap.size 90 2 v (overL G l).length (termCells (pOf (overL G l)) (cOf (overL G l)) (overL G l).length) ∧ Below w.heap.size w w' := by
  have hcf : ∀ e ∈ l, atL l e.1 = e.2 := fun e he => atL_mem hr he
  have ht := terms_flat (atL l) G l hcf
  have := told_ok den b nn (mapOf l) (atL l) (l.map Prod.fst) w hown (at_map l) (sort_keys hr) (by rw [size_map]; exact hlen) (by rw [List.length_map]; exact hlen)
    (fun x hx => by obtain ⟨e, he, rfl⟩ := List.mem_map.1 hx; have := hk e he; exact wf_int (by omega)) hd1 hd2 hb G (by rw [List.length_map]; exact hG) hdq
    (fun x hx => by obtain ⟨e, he, rfl⟩ := List.mem_map.1 hx; unfold quo; rw [hcf e he]; exact hq e he)
  rw [ht.1, ht.2, flat_cells] at this
  exact this

theorem gcdTo_one (c : Nat → Int) : ∀ k, gcdTo 1 c k = 1
  | 0 => rfl
  | k + 1 => by
    show Int.gcd (gcdTo 1 c k : Int) (c k) = 1
    rw [gcdTo_one c k]
    simp [Int.gcd]
theorem overL_one {l : List (Int × Int)} {e : Int × Int} (h : e ∈ overL 1 l) : e ∈ l := by
  obtain ⟨f, hf, rfl⟩ := mem_over h
  simpa using hf

/-- In form, by the list. -/
theorem okLog_list {den : Int} {t : List (Int × Int)} (hr : Rising t) (ht : ∀ e ∈ t, TermOk e.1 e.2) (hd1 : 1 ≤ den) (hd6 : den ≤ 1000000) (hg : gcdTo den (cOf t) t.length = 1) : OkLog den t.length (pOf t) (cOf t) := by
  refine ⟨hd1, hd6, fun i hi => ⟨?_, ht _ (getD_mem hi)⟩, hg⟩
  cases i with
  | zero =>
    show (1 : Int) < pOf t 0
    have := (ht _ (getD_mem hi)).2.2.2.2.1
    show (1 : Int) < (t.getD 0 (0, 0)).1
    omega
  | succ i =>
    show pOf t i < pOf t (i + 1)
    have := List.pairwise_iff_getElem.1 hr i (i + 1) (by omega) hi (by omega)
    simp only [pOf, List.getD_eq_getElem?_getD]
    rw [List.getElem?_eq_getElem hi, List.getElem?_eq_getElem (show i < t.length by omega)]
    exact this

theorem fresh_inPut {w w' : World} {b : Nat} {t : Int} {l0 l : List (Int × Int)} {n0 nn0 n k : Nat} (h : InPut w w' b t l0 n0 nn0 n l k) (hn : n = 1) : ∀ x, atL l x = atL l0 x + t * multI x n0 := fun x => by
  have := h.val x
  rw [hn, multI_one, Int.mul_zero, Int.add_zero] at this
  exact this
theorem log2_of {k n : Nat} (h : 2 ^ k * 1 ≤ n) (h6 : n ≤ 1000) : k ≤ 9 := by
  rcases Nat.lt_or_ge 9 k with h' | h'
  · have h2 : 2 ^ 10 ≤ 2 ^ k := Nat.pow_le_pow_right (by decide) h'
    have h3 : (2 : Nat) ^ 10 = 1024 := by decide
    omega
  · exact h'
theorem log2_of6 {k n : Nat} (h : 2 ^ k * 1 ≤ n) (h6 : n ≤ 1000000) : k ≤ 19 := by
  rcases Nat.lt_or_ge 19 k with h' | h'
  · have h2 : 2 ^ 20 ≤ 2 ^ k := Nat.pow_le_pow_right (by decide) h'
    have h3 : (2 : Nat) ^ 20 = 1048576 := by decide
    omega
  · exact h'

/-- What Of tells. -/
structure IsOf (a b : Nat) (t : List (Int × Int)) : Prop where
  rise : Rising t
  nz : ∀ e ∈ t, e.2 ≠ 0
  val : ∀ x, atL t x = multI x a - multI x b
  len : ∃ k j, 2 ^ k * 1 ≤ a ∧ 2 ^ j * 1 ≤ b ∧ t.length ≤ k + j

theorem IsOf.terms {a b : Nat} {t : List (Int × Int)} (h : IsOf a b t) (ha : 0 < a) (ha6 : a ≤ 1000000) (hb : 0 < b) (hb6 : b ≤ 1000000) : ∀ e ∈ t, TermOk e.1 e.2 ∧ -19 ≤ e.2 ∧ e.2 ≤ 19 := fun e he => by
  have h1 := atL_mem h.rise he
  rw [h.val] at h1
  have h2 := h.nz e he
  have h3 := multI_nonneg e.1 a
  have h4 := multI_le e.1 ha ha6
  have h5 := multI_nonneg e.1 b
  have h6 := multI_le e.1 hb hb6
  have h7 : Pr e.1.toNat ∧ 2 ≤ e.1 ∧ e.1 ≤ 1000000 := by
    by_cases hz : multI e.1 a = 0
    · obtain ⟨q1, q2, q3⟩ := multI_support (x := e.1) hb (by omega)
      exact ⟨q1, q2, by omega⟩
    · obtain ⟨q1, q2, q3⟩ := multI_support ha hz
      exact ⟨q1, q2, by omega⟩
  exact ⟨⟨h7.2.2, h2, by omega, by omega, h7.2.1, h7.1⟩, by omega, by omega⟩
theorem IsOf.ok {a b : Nat} {t : List (Int × Int)} (h : IsOf a b t) (ha : 0 < a) (ha6 : a ≤ 1000000) (hb : 0 < b) (hb6 : b ≤ 1000000) : OkLog 1 t.length (pOf t) (cOf t) :=
  okLog_list h.rise (fun e he => (h.terms ha ha6 hb hb6 e he).1) (by omega) (by omega) (gcdTo_one _ _)

set_option maxRecDepth 100000 in
set_option maxHeartbeats 1000000 in
/-- logs.Of at any fraction. -/
theorem Of_any (a b : Nat) (w : World) (ha : 1 ≤ a) (ha6 : a ≤ 1000000) (hb : 1 ≤ b) (hb6 : b ≤ 1000000) : Calls Tryz.prog 22 #[.agg #[.int .i64 a, .int .i64 b]] w fun e w' => ∃ v t, e = .returned (.tuple #[.agg #[.int .i64 1, v], .nilIface]) ∧ ListAt w' v t ∧ IsOf a b t ∧ Below w.heap.size w w' := by
  have a0 : ((w.alloc (.cells #[.int .i64 a, .int .i64 b] 38)).alloc (.cells #[.int .i64 0, .slice none 0 0] 27)).cell? ⟨w.heap.size, 0, none⟩ = some (.int .i64 a) := by simp
  have a1 : ((w.alloc (.cells #[.int .i64 a, .int .i64 b] 38)).alloc (.cells #[.int .i64 0, .slice none 0 0] 27)).cell? ⟨w.heap.size, 1, none⟩ = some (.int .i64 b) := by simp
  have r0 : ((w.alloc (.cells #[.int .i64 a, .int .i64 b] 38)).alloc (.cells #[.int .i64 0, .slice none 0 0] 27)).cell? ⟨w.heap.size + 1, 0, none⟩ = some (.int .i64 0) := by simp
  have r1 : ((w.alloc (.cells #[.int .i64 a, .int .i64 b] 38)).alloc (.cells #[.int .i64 0, .slice none 0 0] 27)).cell? ⟨w.heap.size + 1, 1, none⟩ = some (.slice none 0 0) := by simp
  have q0 : ((w.alloc (.cells #[.int .i64 a, .int .i64 b] 38)).alloc (.cells #[.int .i64 0, .slice none 0 0] 27)).frozen? ⟨w.heap.size + 1, 0, none⟩ = false := by simp
  have q1 : ((w.alloc (.cells #[.int .i64 a, .int .i64 b] 38)).alloc (.cells #[.int .i64 0, .slice none 0 0] 27)).frozen? ⟨w.heap.size + 1, 1, none⟩ = false := by simp
  have hb0 : Below w.heap.size w ((w.alloc (.cells #[.int .i64 a, .int .i64 b] 38)).alloc (.cells #[.int .i64 0, .slice none 0 0] 27)) := ((Below.refl _ _).alloc (Nat.le_refl _) _).alloc (by simp) _
  have hn := newSum_any 1 ((w.alloc (.cells #[.int .i64 a, .int .i64 b] 38)).alloc (.cells #[.int .i64 0, .slice none 0 0] 27))
  have A0 := Hid.mk' a0
  have A1 := Hid.mk' a1
  have R0 := Hid.mk' r0
  have R1 := Hid.mk' r1
  have Q0 := Hid.mk' q0
  have Q1 := Hid.mk' q1
  have B0 := Hid.mk' hb0
  clear a0 a1 r0 r1 q0 q1 hb0
  go_enter Tryz.func22, Tryz.ntmps22
  go_wp2_with (go_at_call 50; refine (hasLog_yes _ _ (by omega) (by omega)).mono ?_; rintro e w' ⟨rfl, hw'⟩; rw [hw']; clear hw')
  refine hn.mono ?_
  clear hn
  rintro e w3 ⟨rfl, hown3, hb3⟩
  simp only [World.size_alloc] at hown3 ⊢
  have a0 := (cell_past A0.out hb3).1
  have a1 := (cell_past A1.out hb3).1
  have B3 := Hid.mk' hb3
  have hs3 := hb3.size
  simp at hs3
  have hp8 := putFactors_any 1 1 (w.heap.size + 1 + 1 + 1) a 0 [] (w3.alloc (.cells #[.int .i64 1, .map (some (w.heap.size + 1 + 1 + 1))] 86)) (ownsMap_later hown3 (Below.heap_alloc _ _ _ hown3.lt)) List.Pairwise.nil (fun e he => by cases he) (fun x => by simp [atL]) (Or.inl rfl) ha ha6 (by omega)
  have L3 := Hid.mk' hown3.lt
  clear hown3 hb3
  go_wp2_with fail
  refine hp8.mono ?_
  clear hp8 a0 a1
  rintro e w5 ⟨rfl, l1, k1, hin1⟩
  have hg5 := hin1.grow
  have hb5 : Below ((w.alloc (.cells #[.int .i64 a, .int .i64 b] 38)).alloc (.cells #[.int .i64 0, .slice none 0 0] 27)).heap.size ((w.alloc (.cells #[.int .i64 a, .int .i64 b] 38)).alloc (.cells #[.int .i64 0, .slice none 0 0] 27)) w5 :=
    (B3.out.alloc B3.out.size _).grown hg5 (by simp; omega) (fun k e => by cases e; simp)
  have a1 := (cell_past A1.out hb5).2
  have l3 := L3.out
  have s0 : w5.cell? ⟨w3.heap.size, 0, none⟩ = some (.int .i64 1) := cell_beside hg5 (by simp) (by omega)
  have s1 : w5.cell? ⟨w3.heap.size, 1, none⟩ = some (.map (some (w.heap.size + 1 + 1 + 1))) := cell_beside hg5 (by simp) (by omega)
  have v1 := fresh_inPut hin1 rfl
  have hk1 := log2_of6 hin1.cnt ha6
  have hp1 := putFactors_any 1 (-1) (w.heap.size + 1 + 1 + 1) b (0 + k1) l1 w5 hin1.own hin1.rise hin1.keys (fun x => by have h1 := v1 x; have h2 := multI_nonneg x a; have h3 := multI_le x ha ha6; simp only [atL] at h1; omega) (Or.inr rfl) hb hb6 (by omega)
  have B5 := Hid.mk' hb5
  have S5 : Hid (w3.heap.size < w5.heap.size) := cell_lt s0
  have I1 := Hid.mk' hin1
  have V1 := Hid.mk' v1
  clear hin1 hg5 hb5 v1
  go_wp2_with fail
  refine hp1.mono ?_
  clear hp1
  rintro e w6 ⟨rfl, l2, k2, hin2⟩
  have hg6 := hin2.grow
  have hb6' : Below ((w.alloc (.cells #[.int .i64 a, .int .i64 b] 38)).alloc (.cells #[.int .i64 0, .slice none 0 0] 27)).heap.size ((w.alloc (.cells #[.int .i64 a, .int .i64 b] 38)).alloc (.cells #[.int .i64 0, .slice none 0 0] 27)) w6 :=
    B5.out.grown hg6 B5.out.size (fun k e => by cases e; simp)
  have t0 : w6.cell? ⟨w3.heap.size, 0, none⟩ = some (.int .i64 1) := cell_beside hg6 s0 (by omega)
  have t1 : w6.cell? ⟨w3.heap.size, 1, none⟩ = some (.map (some (w.heap.size + 1 + 1 + 1))) := cell_beside hg6 s1 (by omega)
  have v2 := fresh_inPut hin2 rfl
  have hv : ∀ x, atL l2 x = multI x a - multI x b := fun x => by have h1 := v2 x; have h2 := V1.out x; simp only [atL] at h2; omega
  have hk2 := log2_of6 hin2.cnt hb6
  have hlen2 := hin2.len
  have hlen1 := I1.out.len
  simp at hlen1
  have hbd : ∀ x, -19 ≤ atL l2 x ∧ atL l2 x ≤ 19 := fun x => by
    have h1 := hv x
    have h2 := multI_nonneg x a
    have h3 := multI_le x ha ha6
    have h4 := multI_nonneg x b
    have h5 := multI_le x hb hb6
    omega
  have ht := told_list 1 (w.heap.size + 1 + 1 + 1) _ l2 w6 hin2.own hin2.rise hin2.keys (by omega) (fun x => by have := hbd x; omega) (by omega) (by omega) 1 (gcdTo_one _ _) (by decide) (fun e he => by have h1 := hbd e.1; rw [atL_mem hin2.rise he] at h1; simp; omega)
  have hof : IsOf a b (overL 1 l2) := ⟨rising_over hin2.rise 1, fun e he => over_nz he, fun x => by rw [atL_over hin2.rise]; simpa using hv x, k1, k2, I1.out.cnt, hin2.cnt, by have := length_over l2 1; omega⟩
  have HOF := Hid.mk' hof
  have B6 := Hid.mk' hb6'
  have r0 := fun (w7 : World) (h : Below w6.heap.size w6 w7) => (cell_past R0.out (B6.out.trans (h.mono B6.out.size))).2
  have r1 := fun (w7 : World) (h : Below w6.heap.size w6 w7) => (cell_past R1.out (B6.out.trans (h.mono B6.out.size))).2
  have q0 := fun (w7 : World) (h : Below w6.heap.size w6 w7) => (frozen_past R0.out Q0.out (B6.out.trans (h.mono B6.out.size))).2
  have q1 := fun (w7 : World) (h : Below w6.heap.size w6 w7) => (frozen_past R1.out Q1.out (B6.out.trans (h.mono B6.out.size))).2
  have C0 := Hid.mk' r0
  have C1 := Hid.mk' r1
  have D0 := Hid.mk' q0
  have D1 := Hid.mk' q1
  clear hg6 hb6' s0 s1 a1 r0 r1 q0 q1 hin2 v2 hv hbd hof hlen1 hlen2
  generalize overL 1 l2 = tt at ht HOF
  go_wp2_with fail
  refine ht.mono ?_
  clear ht t0 t1
  rintro e w7 ⟨v, rfl, hrow, hb7⟩
  have c0 := C0.out w7 hb7
  have c1 := C1.out w7 hb7
  have d0 := D0.out w7 hb7
  have d1 := D1.out w7 hb7
  have hb8 : Below w.heap.size w w7 := B0.out.trans ((B6.out.trans (hb7.mono B6.out.size)).mono (by simp; omega))
  have z6 := B6.out.size
  simp at z6
  have HR := Hid.mk' hrow
  have HB8 := Hid.mk' hb8
  obtain ⟨ad, n', c', rfl⟩ : ∃ ad n' c', v = .slice ad n' c' := by
    rcases hrow.2 with ⟨rfl, _⟩ | ⟨gg, cap', cur', rfl, _⟩
    · exact ⟨_, _, _, rfl⟩
    · exact ⟨_, _, _, rfl⟩
  clear hrow hb8 hb7 C0 C1 D0 D1 A0 A1 R0 R1 Q0 Q1
  go_wp2_with fail
  refine bodyPost_ret (v := .tuple #[.agg #[.int .i64 1, .slice ad n' c'], .nilIface]) (by simp [results, Tryz.results22, go_sem, c0, c1]) rfl ⟨.slice ad n' c', tt, rfl, ?_, HOF.out, ?_⟩
  · have h1 := ownsRow_setCell_below HR.out (a := ⟨w.heap.size + 1, 0, none⟩) (by show w.heap.size + 1 < _; omega) (.int .i64 1)
    have h2 := ownsRow_setCell_below h1 (a := ⟨w.heap.size + 1, 1, none⟩) (by show w.heap.size + 1 < _; omega) (.slice ad n' c')
    exact ownAt_of_row h2
  · exact (HB8.out.setCell (by simp) _).setCell (by simp) _
end Go.Proofs.YtklhfagcembigaaGreatDoor
