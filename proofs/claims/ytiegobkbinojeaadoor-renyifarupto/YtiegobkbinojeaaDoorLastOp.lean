/- A region that draws its order, whose last operation waits for all the others: what is held of the world need not be held behind that one. -/
import Derived.Deep.RegionHeld3
namespace Go.Proofs.YtiegobkbinojeaaDoor
open Go

/-- What is asked ahead of the last operation. -/
def aheadOf (P : Program) (ops : Array Oper) (Q : Exit → Act → World → Prop) (n : Nat) : Exit → Act → World → Prop
  | .normal, a, w => wpOp P ops Q n (fun a' w' => Q .normal a' w') a w
  | e, a, w => Q e a w
theorem aheadOf_out {P : Program} {ops : Array Oper} {Q : Exit → Act → World → Prop} {n : Nat} (h : LetsOut (aheadOf P ops Q n)) : LetsOut Q := h
theorem upon_ahead {P : Program} {ops : Array Oper} {Q : Exit → Act → World → Prop} {n : Nat} {o : Oper} {a : Act} {K : Act → World → Prop} (r : Result Next) (h : o.upon P a K (aheadOf P ops Q n) r) : o.upon P a K Q r := by
  cases r with
  | ok x w' =>
    cases x with
    | enter f args => exact Calls.mono h (fun e w'' he => by cases e <;> exact he)
    | value v => exact h
    | skip => exact h
    | defer d => exact h
    | row row args => exact h
    | _ => exact h
  | halt x w' => cases x <;> exact h
theorem wpOp_ahead {P : Program} {ops : Array Oper} {Q : Exit → Act → World → Prop} {n i : Nat} {K : Act → World → Prop} {a : Act} {w : World} (h : wpOp P ops (aheadOf P ops Q n) i K a w) : wpOp P ops Q i K a w := by
  unfold wpOp at *
  cases hi : ops[i]? with
  | none => rw [hi] at h; exact h
  | some o =>
    rw [hi] at h
    dsimp only at h ⊢
    by_cases hw : Region.wanted o (yielded ops a.tmps) = true
    · rw [if_pos hw] at h ⊢
      exact h.imp (upon_ahead _) (fun x => ⟨x.1, aheadOf_out x.2⟩)
    · rw [if_neg hw] at h ⊢; exact h

/-- Nobody waits for a later one; the last one waits for all. -/
def lastWaits (ops : Array Oper) : Bool :=
  ((List.range ops.size).all fun j => ((ops[j]?).map (·.after.all fun e => decide (e.on < j))).getD false) && (List.range (ops.size - 1)).all fun j => ((ops[ops.size - 1]?).map (·.after.any fun e => Region.binds .any e && decide (e.on = j))).getD false
theorem getD_push_lt {L : Array Bool} {b d : Bool} {j : Nat} (h : j < L.size) : (L.push b).getD j d = L.getD j d := by
  simp [Array.getElem?_push, Nat.ne_of_lt h]
theorem getD_push_eq {L : Array Bool} {b d : Bool} : (L.push b).getD L.size d = b := by simp
theorem set_push {L : Array Bool} {b : Bool} {i : Nat} (h : i < L.size) : (L.push b).setIfInBounds i true = (L.setIfInBounds i true).push b := by
  apply Array.ext_getElem?
  intro j
  simp only [Array.getElem?_setIfInBounds, Array.getElem?_push, Array.size_push, Array.size_setIfInBounds]
  by_cases h1 : i = j
  · subst h1; simp [h, Nat.ne_of_lt h, Nat.lt_succ_of_lt h]
  · simp [h1]
theorem set_last {L : Array Bool} : (L.push false).setIfInBounds L.size true = L.push true := by
  apply Array.ext_getElem?
  intro j
  simp only [Array.getElem?_setIfInBounds, Array.getElem?_push, Array.size_push]
  by_cases h1 : L.size = j
  · subst h1; simp
  · simp [h1, Ne.symm h1]

section
variable {P : Program} {ops : Array Oper} {Q : Exit → Act → World → Prop} {S : World → Prop}
theorem waits_parts {n : Nat} (hn : ops.size = n + 1) (h : lastWaits ops = true) : (∀ j o, j ≤ n → ops[j]? = some o → ∀ e ∈ o.after, e.on < j) ∧ (∀ o, ops[n]? = some o → ∀ j, j < n → ∃ e ∈ o.after, Region.binds .any e = true ∧ e.on = j) := by
  unfold lastWaits at h
  rw [hn, Nat.add_sub_cancel, Bool.and_eq_true, List.all_eq_true, List.all_eq_true] at h
  constructor
  · intro j o hj ho e he
    have h1 := h.1 j (List.mem_range.2 (by omega))
    rw [ho] at h1
    simp only [Option.map_some, Option.getD_some] at h1
    have := (Array.all_eq_true_iff_forall_mem.1 h1) e he
    exact of_decide_eq_true this
  · intro o ho j hj
    have h1 := h.2 j (List.mem_range.2 hj)
    rw [ho] at h1
    simp only [Option.map_some, Option.getD_some] at h1
    rw [Array.any_eq_true'] at h1
    obtain ⟨e, he, hb⟩ := h1
    rw [Bool.and_eq_true] at hb
    exact ⟨e, he, hb.1, of_decide_eq_true hb.2⟩
/-- While one of the others is left, the ready ones are the same, and the last one is not among them. -/
theorem ready_same {n i : Nat} {L : Array Bool} (hL : L.size = n) (hs : ops.size = n + 1) (h : lastWaits ops = true) (hi : i < n) : i ∈ Region.ready .any ops (L.push false) ↔ i ∈ Region.ready .any ops (L.push true) := by
  rw [mem_ready, mem_ready, getD_push_lt (by omega), getD_push_lt (by omega)]
  refine and_congr_right fun _ => exists_congr fun o => and_congr_right fun ho => forall_congr' fun e => ?_
  constructor
  · intro h1 he hb
    have hlt := (waits_parts hs h).1 i o (Nat.le_of_lt hi) ho e he
    have := h1 he hb
    rw [getD_push_lt (by omega)] at this ⊢; exact this
  · intro h1 he hb
    have hlt := (waits_parts hs h).1 i o (Nat.le_of_lt hi) ho e he
    have := h1 he hb
    rw [getD_push_lt (by omega)] at this ⊢; exact this
theorem ready_lt {i : Nat} {L : Array Bool} (h : i ∈ Region.ready .any ops L) : i < ops.size := by
  obtain ⟨_, o, ho, _⟩ := mem_ready.1 h
  exact (Array.getElem?_eq_some_iff.1 ho).1
/-- If none of the others is ready, all are done. -/
theorem none_left {n : Nat} {L : Array Bool} (hL : L.size = n) (hs : ops.size = n + 1) (h : lastWaits ops = true) (hr : Region.ready .any ops (L.push true) = []) : ∀ j, j < n → L.getD j false = true := by
  intro j
  induction j using Nat.strongRecOn with
  | _ j ih =>
    intro hj
    cases hb : L.getD j false with
    | true => rfl
    | false =>
      exfalso
      have hjs : j < ops.size := by omega
      have : j ∈ Region.ready .any ops (L.push true) := by
        rw [mem_ready, getD_push_lt (by omega)]
        have e1 : L.getD j true = false := by
          have hlt : j < L.size := by omega
          simp [hlt] at hb ⊢; exact hb
        refine ⟨e1, ops[j], by simp [hjs], fun e he _ => ?_⟩
        have hlt := (waits_parts hs h).1 j ops[j] (Nat.le_of_lt hj) (by simp [hjs]) e he
        rw [getD_push_lt (by omega)]
        exact ih e.on hlt (by omega)
      rw [hr] at this
      cases this
theorem last_one {n fuel : Nat} {L : Array Bool} {a : Act} {w : World} (hs : ops.size = n + 1) (h : lastWaits ops = true) (hL : L.size = n) (hr : Region.ready .any ops (L.push true) = []) (hq : aheadOf P ops Q n .normal a w) : wpAny P .any ops Q (fuel + 1) (L.push false) a w := by
  have hall := none_left hL hs h hr
  have hns : n < ops.size := by omega
  have hin : n ∈ Region.ready .any ops (L.push false) := by
    rw [mem_ready]
    refine ⟨by rw [← hL]; exact getD_push_eq, ops[n], by simp [hns], fun e he hb => ?_⟩
    have hlt := (waits_parts hs h).1 n ops[n] (Nat.le_refl _) (by simp [hns]) e he
    rw [getD_push_lt (by omega)]
    exact hall e.on hlt
  refine ⟨fun h0 => (by rw [h0] at hin; cases hin), fun i hi => ?_⟩
  have hil := ready_lt hi
  rcases Nat.lt_or_ge i n with hlt | hge
  · have := (ready_same hL hs h hlt).1 hi
    rw [hr] at this; cases this
  · obtain rfl : i = n := by omega
    refine wpOp_mono (fun a' w' hq' => ?_) hq
    have e : (L.push false).setIfInBounds i true = L.push true := by rw [← hL]; exact set_last
    rw [e]
    exact wpAny_done hr hq' _
theorem any_of_ahead {n : Nat} (hs : ops.size = n + 1) (h : lastWaits ops = true) : ∀ (fuel : Nat) (L : Array Bool) (a : Act) (w : World), L.size = n → wpAnyH P .any ops (aheadOf P ops Q n) S fuel (L.push true) a w → wpAny P .any ops Q (fuel + 1) (L.push false) a w := by
  intro fuel
  induction fuel with
  | zero =>
    intro L a w hL H
    exact last_one hs h hL H.1 H.2
  | succ fuel ih =>
    intro L a w hL H
    by_cases hr : Region.ready .any ops (L.push true) = []
    · exact last_one hs h hL hr (H.1 hr)
    · obtain ⟨j, hj⟩ := List.exists_mem_of_ne_nil _ hr
      have hjn : j < n := by
        have h1 := ready_lt hj
        rcases Nat.lt_or_ge j n with h2 | h2
        · exact h2
        · obtain rfl : j = n := by omega
          have h3 := (mem_ready.1 hj).1
          rw [← hL, getD_push_eq] at h3
          cases h3
      have hjf := (ready_same hL hs h hjn).2 hj
      refine ⟨fun h0 => (by rw [h0] at hjf; cases hjf), fun i hi => ?_⟩
      have hil := ready_lt hi
      rcases Nat.lt_or_ge i n with hlt | hge
      · have h1 := H.2 i ((ready_same hL hs h hlt).1 hi)
        have h2 := wpOp_ahead h1
        refine wpOp_mono (fun a' w' h3 => ?_) h2
        rw [set_push (by omega)] at h3 ⊢
        exact ih _ a' w' (by simpa using hL) h3.2
      · exfalso
        obtain rfl : i = n := by omega
        obtain ⟨_, o, ho, hall⟩ := mem_ready.1 hi
        obtain ⟨e, he, hb, hon⟩ := (waits_parts hs h).2 o ho j hjn
        have h4 := hall e he hb
        rw [hon, getD_push_lt (by omega)] at h4
        have h5 := (mem_ready.1 hj).1
        rw [getD_push_lt (by omega)] at h5
        have hlt : j < L.size := by omega
        simp [hlt] at h4 h5
        rw [h4] at h5; cases h5
/-- The last one. -/
theorem ahead_last {n : Nat} {o : Oper} {a : Act} {w : World} (ho : ops[n]? = some o) (h : ∀ K' : Act → World → Prop, (∀ a' w', Q .normal a' w' → K' a' w') → if Region.wanted o (yielded ops a.tmps) = true then Oper.wp P o a w K' Q else K' (a.put o.dst undef) w) : aheadOf P ops Q n .normal a w := wpOp_step ho h
/-- The beginning: all but the last. -/
theorem region_but_last {n id : Nat} {a : Act} {w : World} (hm : P.follows .mixedOrders = true) (hs : ops.size = n + 1) (h : lastWaits ops = true) (hS : S w.drew) (H : S w.drew → wpAnyH P .any ops (aheadOf P ops Q n) S n ((Array.replicate n false).push true) a w.drew) : (Code.region id ops true).wp P Q a w := by
  refine wp_region_any hm ?_
  rw [hs, Array.replicate_succ]
  exact any_of_ahead hs h n _ a _ (by simp) (H hS)
end
end Go.Proofs.YtiegobkbinojeaaDoor
