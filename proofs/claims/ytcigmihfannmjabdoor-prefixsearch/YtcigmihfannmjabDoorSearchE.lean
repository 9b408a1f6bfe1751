/- prefix.checkSearch; the document's SearchError and SearchOf. -/
import Derived.Test.YtcigmihfannmjabDoorPreLen
import Derived.Test.YtcigmihfannmjabDoorSearchMath
import Derived.Test.YtcigmihfannmjabDoorCodedV
namespace Go.Proofs.YtcigmihfannmjabDoor
open Go.RowKit

def ngB (f : Nat → Int) : Nat → Bool
  | 0 => false
  | n + 1 => ngB f n || decide (f n < 0)
def bgB (f : Nat → Int) : Nat → Bool
  | 0 => false
  | n + 1 => bgB f n || decide (4096 < f n)
theorem ngB_no {f : Nat → Int} : ∀ {n : Nat}, ngB f n = false ↔ ∀ i, i < n → 0 ≤ f i
  | 0 => by simp [ngB]
  | n + 1 => by
    simp only [ngB, Bool.or_eq_false_iff, ngB_no (n := n), decide_eq_false_iff_not]
    constructor
    · rintro ⟨h1, h2⟩ i hi
      rcases Nat.lt_or_ge i n with h | h
      · exact h1 i h
      · obtain rfl : i = n := by omega
        omega
    · intro h
      exact ⟨fun i hi => h i (by omega), by have := h n (by omega); omega⟩
theorem bgB_no {f : Nat → Int} : ∀ {n : Nat}, bgB f n = false ↔ ∀ i, i < n → f i ≤ 4096
  | 0 => by simp [bgB]
  | n + 1 => by
    simp only [bgB, Bool.or_eq_false_iff, bgB_no (n := n), decide_eq_false_iff_not]
    constructor
    · rintro ⟨h1, h2⟩ i hi
      rcases Nat.lt_or_ge i n with h | h
      · exact h1 i h
      · obtain rfl : i = n := by omega
        omega
    · intro h
      exact ⟨fun i hi => h i (by omega), by have := h n (by omega); omega⟩
theorem neg_min {f : Nat → Int} {n : Nat} (h0 : 0 < n) : Lib.minOf (zList f n) < 0 ↔ ngB f n = true := by
  have hne : zList f n ≠ [] := by intro e; have := congrArg List.length e; simp [zList] at this; omega
  rw [minOf_lt hne]
  constructor
  · rintro ⟨y, hy, hy0⟩
    obtain ⟨i, hi, rfl⟩ := zList_mem.1 hy
    cases hb : ngB f n with
    | true => rfl
    | false => have := ngB_no.1 hb i hi; omega
  · intro hb
    refine Classical.byContradiction fun hno => ?_
    have : ngB f n = false := ngB_no.2 fun i hi => Int.not_lt.1 fun hlt => hno ⟨f i, zList_mem.2 ⟨i, hi, rfl⟩, hlt⟩
    rw [this] at hb; cases hb
theorem big_max {f : Nat → Int} {n : Nat} (h0 : 0 < n) : 4096 < Lib.maxOf (zList f n) ↔ bgB f n = true := by
  have hne : zList f n ≠ [] := by intro e; have := congrArg List.length e; simp [zList] at this; omega
  rw [lt_maxOf hne]
  constructor
  · rintro ⟨y, hy, hy0⟩
    obtain ⟨i, hi, rfl⟩ := zList_mem.1 hy
    cases hb : bgB f n with
    | true => rfl
    | false => have := bgB_no.1 hb i hi; omega
  · intro hb
    refine Classical.byContradiction fun hno => ?_
    have : bgB f n = false := bgB_no.2 fun i hi => Int.not_lt.1 fun hlt => hno ⟨f i, zList_mem.2 ⟨i, hi, rfl⟩, hlt⟩
    rw [this] at hb; cases hb
/-- The error of keys and gaps, by its number. -/
def seErr (n m : Nat) (ks gs : Nat → Int) : Nat := if 16 < n then 2 else if n = 0 ∨ m ≠ n + 1 then 3 else if ngB ks n = true ∨ ngB gs m = true then 3 else if bgB ks n = true ∨ bgB gs m = true then 2 else 0
theorem seErr_le (n m : Nat) (ks gs : Nat → Int) : seErr n m ks gs ≤ 8 := by
  unfold seErr; (repeat' split) <;> omega
theorem seErr_ok {n m : Nat} {ks gs : Nat → Int} (h : seErr n m ks gs = 0) : 0 < n ∧ n ≤ 16 ∧ m = n + 1 ∧ (∀ i, i < n → 0 ≤ ks i ∧ ks i ≤ 4096) ∧ ∀ i, i < n + 1 → 0 ≤ gs i ∧ gs i ≤ 4096 := by
  unfold seErr at h
  by_cases h1 : 16 < n
  · rw [if_pos h1] at h; cases h
  · rw [if_neg h1] at h
    by_cases h2 : n = 0 ∨ m ≠ n + 1
    · rw [if_pos h2] at h; cases h
    · rw [if_neg h2] at h
      by_cases h3 : ngB ks n = true ∨ ngB gs m = true
      · rw [if_pos h3] at h; cases h
      · rw [if_neg h3] at h
        by_cases h4 : bgB ks n = true ∨ bgB gs m = true
        · rw [if_pos h4] at h; cases h
        · have hm : m = n + 1 := by omega
          subst hm
          simp only [not_or, Bool.not_eq_true] at h3 h4
          exact ⟨by omega, by omega, rfl, fun i hi => ⟨ngB_no.1 h3.1 i hi, bgB_no.1 h4.1 i hi⟩, fun i hi => ⟨ngB_no.1 h3.2 i hi, bgB_no.1 h4.2 i hi⟩⟩
set_option maxRecDepth 100000 in
set_option maxHeartbeats 1000000 in
theorem checkSearch_any (a : Nat → Addr) (v u : Value) (n m : Nat) (ks gs : Nat → Int) (w : World) (hE : Errs w a) (h : NumsAt w v n ks) (k : NumsAt w u m gs) (hn : n ≤ 1000000) (hm : m ≤ 1000000) :
    Calls Tryd.prog 36 #[v, u] w fun e w' => e = .returned (errV a (seErr n m ks gs)) ∧ w' = w := by
  have hc1 := hE.c1
  have hc2 := hE.c2
  clear hE
  unfold seErr
  by_cases h16 : 16 < n
  · rw [if_pos h16, errV_two]
    obtain ⟨ad, cap, rfl⟩ := h.form
    clear h k
    go_enter Tryd.func36, Tryd.ntmps36
    go_wp2_with fail
    go_ret
    exact ⟨rfl, rfl⟩
  · rw [if_neg h16]
    have h16' : n ≤ 16 := by omega
    clear h16
    by_cases h2 : n = 0 ∨ m ≠ n + 1
    · rw [if_pos h2, errV_three]
      obtain ⟨ad, cap, rfl⟩ := h.form
      obtain ⟨ad', cap', rfl⟩ := k.form
      clear h k
      by_cases h0 : n = 0
      · subst h0
        go_enter Tryd.func36, Tryd.ntmps36
        go_wp2_with fail
        go_ret
        exact ⟨rfl, rfl⟩
      · have hb0 : ((n : Int) == 0) = false := by rw [beq_eq_false_iff_ne]; omega
        have hb1 : ((m : Int) != (n : Int) + 1) = true := by rw [bne_iff_ne]; omega
        clear h2
        go_enter Tryd.func36, Tryd.ntmps36
        go_wp2_with fail
        go_ret
        exact ⟨rfl, rfl⟩
    · rw [if_neg h2]
      have hn0 : 0 < n := by omega
      obtain rfl : m = n + 1 := by omega
      have hb0 : ((n : Int) == 0) = false := by rw [beq_eq_false_iff_ne]; omega
      clear h2
      rcases h with ⟨_, _, _, h'⟩ | ⟨b, o, cap, rfl, _, hr⟩
      · omega
      rcases k with ⟨_, _, _, h'⟩ | ⟨b', o', cap', rfl, _, hr'⟩
      · omega
      have m1 := min_of b o n cap ks w hn0 (by omega) hr
      have m2 := min_of b' o' (n + 1) cap' gs w (by omega) (by omega) hr'
      have x1 := max_of b o n cap ks w hn0 (by omega) hr
      have x2 := max_of b' o' (n + 1) cap' gs w (by omega) (by omega) hr'
      have e1 := neg_min (f := ks) hn0
      have e2 := neg_min (f := gs) (show 0 < n + 1 by omega)
      have e3 := big_max (f := ks) hn0
      have e4 := big_max (f := gs) (show 0 < n + 1 by omega)
      generalize Lib.minOf (zList ks n) = p1 at *
      generalize Lib.minOf (zList gs (n + 1)) = p2 at *
      generalize Lib.maxOf (zList ks n) = q1 at *
      generalize Lib.maxOf (zList gs (n + 1)) = q2 at *
      clear hr hr'
      simp only [← e1, ← e2, ← e3, ← e4]
      clear e1 e2 e3 e4
      by_cases g1 : p1 < 0
      · rw [if_pos (Or.inl g1), errV_three]
        go_enter Tryd.func36, Tryd.ntmps36
        go_wp2_with fail
        refine m1.mono ?_
        rintro e w1 ⟨rfl, hw1⟩
        go_wp2_with fail
        go_ret
        exact ⟨rfl, rfl⟩
      · have g1' : 0 ≤ p1 := by omega
        by_cases g2 : p2 < 0
        · rw [if_pos (Or.inr g2), errV_three]
          clear g1
          go_enter Tryd.func36, Tryd.ntmps36
          go_wp2_with fail
          refine m1.mono ?_
          rintro e w1 ⟨rfl, hw1⟩
          go_wp2_with fail
          refine m2.mono ?_
          rintro e w2 ⟨rfl, hw2⟩
          go_wp2_with fail
          go_ret
          exact ⟨rfl, rfl⟩
        · have g2' : 0 ≤ p2 := by omega
          rw [if_neg (by omega)]
          clear g1 g2
          by_cases g3 : 4096 < q1
          · rw [if_pos (Or.inl g3), errV_two]
            go_enter Tryd.func36, Tryd.ntmps36
            go_wp2_with fail
            refine m1.mono ?_
            rintro e w1 ⟨rfl, hw1⟩
            go_wp2_with fail
            refine m2.mono ?_
            rintro e w2 ⟨rfl, hw2⟩
            go_wp2_with fail
            refine x1.mono ?_
            rintro e w3 ⟨rfl, hw3⟩
            go_wp2_with fail
            go_ret
            exact ⟨rfl, rfl⟩
          · have g3' : q1 ≤ 4096 := by omega
            by_cases g4 : 4096 < q2
            · rw [if_pos (Or.inr g4), errV_two]
              clear g3
              go_enter Tryd.func36, Tryd.ntmps36
              go_wp2_with fail
              refine m1.mono ?_
              rintro e w1 ⟨rfl, hw1⟩
              go_wp2_with fail
              refine m2.mono ?_
              rintro e w2 ⟨rfl, hw2⟩
              go_wp2_with fail
              refine x1.mono ?_
              rintro e w3 ⟨rfl, hw3⟩
              go_wp2_with fail
              refine x2.mono ?_
              rintro e w4 ⟨rfl, hw4⟩
              go_wp2_with fail
              go_ret
              exact ⟨rfl, rfl⟩
            · have g4' : q2 ≤ 4096 := by omega
              rw [if_neg (by omega), errV_zero]
              clear g3 g4
              go_enter Tryd.func36, Tryd.ntmps36
              go_wp2_with fail
              refine m1.mono ?_
              rintro e w1 ⟨rfl, hw1⟩
              go_wp2_with fail
              refine m2.mono ?_
              rintro e w2 ⟨rfl, hw2⟩
              go_wp2_with fail
              refine x1.mono ?_
              rintro e w3 ⟨rfl, hw3⟩
              go_wp2_with fail
              refine x2.mono ?_
              rintro e w4 ⟨rfl, hw4⟩
              go_wp2_with fail
              go_ret
              exact ⟨rfl, rfl⟩
end Go.Proofs.YtcigmihfannmjabDoor
