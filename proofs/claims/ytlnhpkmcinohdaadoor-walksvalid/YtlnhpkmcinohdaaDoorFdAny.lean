/- A region that draws its order, of a few makers: walked once a maker, not once an order. -/
import Derived.Test.YtlnhpkmcinohdaaDoorLastOp
namespace Go.Proofs.YtlnhpkmcinohdaaDoor
open Go

theorem countP_set_lt : ∀ (l : List Bool) (i : Nat), l[i]? = some false → (l.set i true).countP (fun b => !b) < l.countP (fun b => !b)
  | [], i, h => by simp at h
  | b :: l, 0, h => by
    obtain rfl : b = false := by simpa using h
    simp
  | b :: l, i + 1, h => by
    have h1 := countP_set_lt l i (by simpa using h)
    simp only [List.set_cons_succ, List.countP_cons]
    omega
theorem ready_false {md : Region.Mode} {ops : Array Oper} {L : Array Bool} {i : Nat} (h : i ∈ Region.ready md ops L) : L.toList[i]? = some false := by
  have h1 := (mem_ready.1 h).1
  rw [Array.getElem?_toList]
  rcases Nat.lt_or_ge i L.size with h2 | h2
  · simp [h2] at h1 ⊢; exact h1
  · simp [Array.getElem?_eq_none h2] at h1

section
variable {P : Program} {md : Region.Mode} {ops : Array Oper} {Q : Exit → Act → World → Prop} {S : World → Prop}
theorem wpAnyH_inv (J : Array Bool → Act → World → Prop) (hend : ∀ L a w, J L a w → Region.ready md ops L = [] → Q .normal a w)
    (hstep : ∀ L a w, J L a w → ∀ i, i ∈ Region.ready md ops L → wpOp P ops Q i (fun a' w' => S w' ∧ J (L.setIfInBounds i true) a' w') a w) :
    ∀ (fuel : Nat) (L : Array Bool) (a : Act) (w : World), L.toList.countP (fun b => !b) ≤ fuel → J L a w → wpAnyH P md ops Q S fuel L a w
  | 0, L, a, w, hm, hJ => by
    have hr : Region.ready md ops L = [] := by
      cases h : Region.ready md ops L with
      | nil => rfl
      | cons i r =>
        have hi : i ∈ Region.ready md ops L := by rw [h]; simp
        have h1 := countP_set_lt _ i (ready_false hi)
        omega
    exact ⟨hr, hend L a w hJ hr⟩
  | fuel + 1, L, a, w, hm, hJ => ⟨hend L a w hJ, fun i hi => wpOp_mono (fun a' w' h => ⟨h.1, wpAnyH_inv J hend hstep fuel _ a' w' (by
      have h1 := countP_set_lt _ i (ready_false hi)
      have h2 : (L.setIfInBounds i true).toList = L.toList.set i true := by simp
      rw [h2]; omega) h.2⟩) (hstep L a w hJ i hi)⟩

/-- The values of some temporaries. -/
def putAll (y : Nat → Value) : List Nat → Nat → Act → Act
  | [], _, a => a
  | d :: ds, j, a => putAll y ds (j + 1) (a.put (some d) (y j))
/-- One more is known. -/
def updV (y : Nat → Value) (j : Nat) (v : Value) : Nat → Value := fun i => if i = j then v else y i
/-- What is asked of one operation. -/
def stepOf (P : Program) (ops : Array Oper) (Q : Exit → Act → World → Prop) (i : Nat) (K : Act → World → Prop) (a : Act) (w : World) : Prop :=
  match ops[i]? with
  | none => False
  | some o => if Region.wanted o (yielded ops a.tmps) = true then Oper.wp P o a w K Q else K (a.put o.dst undef) w
theorem step_of {i : Nat} {o : Oper} {K : Act → World → Prop} {a : Act} {w : World} (ho : ops[i]? = some o) (h : if Region.wanted o (yielded ops a.tmps) = true then Oper.wp P o a w K Q else K (a.put o.dst undef) w) : stepOf P ops Q i K a w := by
  unfold stepOf
  rw [ho]
  exact h
/-- Which come up when: the kernel looks all ways through. -/
def keyB (md : Region.Mode) (ops : Array Oper) (k : Nat) (ms : List Nat) (Lf : Nat → Array Bool) (ok : Nat → Bool) (pre : Nat → Nat → Bool) : Bool :=
  ok 0 && (List.range (2 ^ k)).all fun b => !ok b || ((Region.ready md ops (Lf b)).all fun i => (List.range k).any fun j => ms.getD j 0 == i && (!b.testBit j && (pre j b && ok (b ||| 2 ^ j)))) &&
    (((List.range k).all fun j => (Lf b).setIfInBounds (ms.getD j 0) true == Lf (b ||| 2 ^ j)) && (!(Region.ready md ops (Lf b)).isEmpty || b == 2 ^ k - 1))
theorem wpAnyH_bits {k fuel : Nat} {L : Array Bool} {a : Act} {w : World} (ds ms : List Nat) (Lf : Nat → Array Bool) (ok : Nat → Bool) (pre : Nat → Nat → Bool) (I : Nat → (Nat → Value) → World → Prop) (y0 : Nat → Value)
    (hL : L = Lf 0) (h0 : a = putAll y0 ds 0 a) (hkey : keyB md ops k ms Lf ok pre = true) (hfuel : (Lf 0).toList.countP (fun b => !b) ≤ fuel)
    (hI : I 0 y0 w) (hend : ∀ y w, I (2 ^ k - 1) y w → Q .normal (putAll y ds 0 a) w)
    (hstep : ∀ j, j < k → ∀ b y w, b < 2 ^ k → ok b = true → b.testBit j = false → pre j b = true → I b y w → ∀ K' : Act → World → Prop, Shut (∀ y' w', S w' → I (b ||| 2 ^ j) y' w' → K' (putAll y' ds 0 a) w') → stepOf P ops Q (ms.getD j 0) K' (putAll y ds 0 a) w) :
    wpAnyH P md ops Q S fuel L a w := by
  unfold keyB at hkey
  rw [Bool.and_eq_true] at hkey
  have hk := fun b (hb : b < 2 ^ k) (ho : ok b = true) => (by
    have h1 := (List.all_eq_true.1 hkey.2) b (List.mem_range.2 hb)
    rw [ho] at h1
    exact h1 : (!true || (((Region.ready md ops (Lf b)).all fun i => (List.range k).any fun j => ms.getD j 0 == i && (!b.testBit j && (pre j b && ok (b ||| 2 ^ j)))) && (((List.range k).all fun j => (Lf b).setIfInBounds (ms.getD j 0) true == Lf (b ||| 2 ^ j)) && (!(Region.ready md ops (Lf b)).isEmpty || b == 2 ^ k - 1)))) = true)
  simp only [Bool.not_true, Bool.false_or] at hk
  refine wpAnyH_inv (fun L' a' w' => ∃ b y, b < 2 ^ k ∧ ok b = true ∧ L' = Lf b ∧ a' = putAll y ds 0 a ∧ I b y w') ?_ ?_ fuel L a w (by rw [hL]; exact hfuel) ⟨0, _, Nat.pow_pos (by decide), hkey.1, hL, h0, hI⟩
  · rintro L' a' w' ⟨b, y, hb, ho, rfl, rfl, hI'⟩ hr
    have h1 := hk b hb ho
    rw [hr] at h1
    simp only [Bool.and_eq_true] at h1
    have h2 : b = 2 ^ k - 1 := by simpa using h1.2.2
    rw [h2] at hI'
    exact hend y w' hI'
  · rintro L' a' w' ⟨b, y, hb, ho, rfl, rfl, hI'⟩ i hi
    have h1 := hk b hb ho
    simp only [Bool.and_eq_true] at h1
    obtain ⟨j, hj, h2⟩ := List.any_eq_true.1 ((List.all_eq_true.1 h1.1) i hi)
    simp only [Bool.and_eq_true, beq_iff_eq, Bool.not_eq_true'] at h2
    obtain ⟨h3, h4, h5, h9⟩ := h2
    have hjk := List.mem_range.1 hj
    have h6 : (Lf b).setIfInBounds (ms.getD j 0) true = Lf (b ||| 2 ^ j) := by simpa using (List.all_eq_true.1 h1.2.1) j hj
    have h7 : b ||| 2 ^ j < 2 ^ k := Nat.or_lt_two_pow hb (Nat.pow_lt_pow_right (by decide) hjk)
    have h8 := hstep j hjk b y w' hb ho h4 h5 hI'
    rw [h3] at h6 h8
    unfold stepOf at h8
    cases hop : ops[i]? with
    | none => rw [hop] at h8; exact (h8 (fun _ _ => True) (fun _ _ _ _ => trivial)).elim
    | some o =>
      rw [hop] at h8
      refine wpOp_step hop (fun K' hK => h8 K' (fun y' w'' hS hI'' => hK _ _ ⟨hS, b ||| 2 ^ j, y', h7, h9, h6, rfl, hI''⟩))
/-- As keyB, but others come behind the makers. -/
def keyC (md : Region.Mode) (ops : Array Oper) (k : Nat) (ms : List Nat) (Lf : Nat → Array Bool) (ok : Nat → Bool) (pre : Nat → Nat → Bool) : Bool :=
  ok 0 && (List.range (2 ^ k)).all fun b => !ok b || (b == 2 ^ k - 1 || ((Region.ready md ops (Lf b)).all fun i => (List.range k).any fun j => ms.getD j 0 == i && (!b.testBit j && (pre j b && ok (b ||| 2 ^ j)))) &&
    (((List.range k).all fun j => (Lf b).setIfInBounds (ms.getD j 0) true == Lf (b ||| 2 ^ j)) && !(Region.ready md ops (Lf b)).isEmpty))
theorem countP_set_one : ∀ (l : List Bool) (i : Nat), l[i]? = some false → (l.set i true).countP (fun b => !b) + 1 = l.countP (fun b => !b)
  | [], i, h => by simp at h
  | b :: l, 0, h => by
    obtain rfl : b = false := by simpa using h
    simp
  | b :: l, i + 1, h => by
    have h1 := countP_set_one l i (by simpa using h)
    simp only [List.set_cons_succ, List.countP_cons]
    omega
theorem wpAnyH_bits2 {k fuel fe : Nat} {L : Array Bool} {a : Act} {w : World} (ds ms : List Nat) (Lf : Nat → Array Bool) (ok : Nat → Bool) (pre : Nat → Nat → Bool) (I : Nat → (Nat → Value) → World → Prop) (y0 : Nat → Value)
    (hL : L = Lf 0) (h0 : a = putAll y0 ds 0 a) (hkey : keyC md ops k ms Lf ok pre = true) (hfuel : (Lf 0).toList.countP (fun b => !b) = fuel) (hfe : (Lf (2 ^ k - 1)).toList.countP (fun b => !b) = fe)
    (hI : I 0 y0 w) (hend : ∀ y w, I (2 ^ k - 1) y w → wpAnyH P md ops Q S fe (Lf (2 ^ k - 1)) (putAll y ds 0 a) w)
    (hstep : ∀ j, j < k → ∀ b y w, b < 2 ^ k → ok b = true → b.testBit j = false → pre j b = true → I b y w → ∀ K' : Act → World → Prop, Shut (∀ y' w', S w' → I (b ||| 2 ^ j) y' w' → K' (putAll y' ds 0 a) w') → stepOf P ops Q (ms.getD j 0) K' (putAll y ds 0 a) w) :
    wpAnyH P md ops Q S fuel L a w := by
  unfold keyC at hkey
  rw [Bool.and_eq_true] at hkey
  have hk := fun b (hb : b < 2 ^ k) (ho : ok b = true) => (by
    have h1 := (List.all_eq_true.1 hkey.2) b (List.mem_range.2 hb)
    rw [ho] at h1
    exact h1 : (!true || (b == 2 ^ k - 1 || ((Region.ready md ops (Lf b)).all fun i => (List.range k).any fun j => ms.getD j 0 == i && (!b.testBit j && (pre j b && ok (b ||| 2 ^ j)))) && (((List.range k).all fun j => (Lf b).setIfInBounds (ms.getD j 0) true == Lf (b ||| 2 ^ j)) && !(Region.ready md ops (Lf b)).isEmpty))) = true)
  simp only [Bool.not_true, Bool.false_or] at hk
  have main : ∀ (fuel b : Nat) (y : Nat → Value) (w : World), b < 2 ^ k → ok b = true → (Lf b).toList.countP (fun b => !b) = fuel → I b y w → wpAnyH P md ops Q S fuel (Lf b) (putAll y ds 0 a) w := by
    intro fuel
    induction fuel with
    | zero =>
      intro b y w hb ho hf hI'
      by_cases he : b = 2 ^ k - 1
      · rw [he] at hI' hf ⊢; rw [hfe] at hf
        have h9 := hend y w hI'
        rw [hf] at h9
        exact h9
      · exfalso
        have h1 := hk b hb ho
        rw [show (b == 2 ^ k - 1) = false by simpa using he, Bool.false_or, Bool.and_eq_true, Bool.and_eq_true] at h1
        cases hr : Region.ready md ops (Lf b) with
        | nil => rw [hr] at h1; simp at h1
        | cons i r =>
          have hi : i ∈ Region.ready md ops (Lf b) := by rw [hr]; simp
          have h2 := countP_set_one _ i (ready_false hi)
          omega
    | succ fuel ih =>
      intro b y w hb ho hf hI'
      by_cases he : b = 2 ^ k - 1
      · rw [he] at hI' hf ⊢; rw [hfe] at hf
        have h9 := hend y w hI'
        rw [hf] at h9
        exact h9
      · have h1 := hk b hb ho
        rw [show (b == 2 ^ k - 1) = false by simpa using he, Bool.false_or, Bool.and_eq_true, Bool.and_eq_true] at h1
        refine ⟨fun hr => by rw [hr] at h1; simp at h1, fun i hi => ?_⟩
        obtain ⟨j, hj, h2⟩ := List.any_eq_true.1 ((List.all_eq_true.1 h1.1) i hi)
        simp only [Bool.and_eq_true, beq_iff_eq, Bool.not_eq_true'] at h2
        obtain ⟨h3, h4, h5, h9⟩ := h2
        have hjk := List.mem_range.1 hj
        have h6 : (Lf b).setIfInBounds (ms.getD j 0) true = Lf (b ||| 2 ^ j) := by simpa using (List.all_eq_true.1 h1.2.1) j hj
        have h7 : b ||| 2 ^ j < 2 ^ k := Nat.or_lt_two_pow hb (Nat.pow_lt_pow_right (by decide) hjk)
        have hc := countP_set_one _ i (ready_false hi)
        have h8 := hstep j hjk b y w hb ho h4 h5 hI'
        rw [h3] at h6 h8
        have hc2 : (Lf (b ||| 2 ^ j)).toList.countP (fun b => !b) = fuel := by
          rw [← h6, show ((Lf b).setIfInBounds i true).toList = (Lf b).toList.set i true by simp]; omega
        unfold stepOf at h8
        cases hop : ops[i]? with
        | none => rw [hop] at h8; exact (h8 (fun _ _ => True) (fun _ _ _ _ => trivial)).elim
        | some o =>
          rw [hop] at h8
          exact wpOp_step hop (fun K' hK => h8 K' (fun y' w'' hS hI'' => hK _ _ ⟨hS, by rw [h6]; exact ih _ y' w'' h7 h9 hc2 hI''⟩))
  rw [hL, h0]
  exact main fuel 0 y0 w (Nat.pow_pos (by decide)) hkey.1 hfuel hI
end
end Go.Proofs.YtlnhpkmcinohdaaDoor
