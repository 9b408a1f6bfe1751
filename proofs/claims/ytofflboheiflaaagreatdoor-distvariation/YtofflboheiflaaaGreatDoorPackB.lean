/- The law's copies of lists. -/
import Derived.Test.YtofflboheiflaaaGreatDoorWeights
import Derived.Test.YtofflboheiflaaaGreatDoorBig
import Derived.Test.YtofflboheiflaaaGreatDoorCode
import Derived.Test.YtofflboheiflaaaGreatDoorPackA
import Derived.Test.YtofflboheiflaaaGreatDoorRows
import Derived.ChangeSame
import Derived.ChangeVars
import Derived.JoinedOf
import Derived.LaidLaws
import Derived.LaidHandle
import Derived.LaidMore
import Derived.Stop.Joined
import Derived.Test.YtofflboheiflaaaGreatDoorInts
import Derived.Test.YtofflboheiflaaaGreatDoorCards
import Derived.Test.YtofflboheiflaaaGreatDoorTie
import Derived.SevenTiedAt
import Derived.ProofKit
import Derived.OpenShut
import Derived.ChangeOld
import Derived.Lib.SmallJoins
import Derived.Deep.Matrix
namespace Go.Proofs.YtofflboheiflaaaGreatDoor
open Go.RowKit

theorem append_zeroI (w : World) (ty : TypeId) (ad : Option Addr) (cap : Nat) : (Builtin.append_ #[22, 22] ty #[.slice none 0 0, .slice ad 0 cap]).run Tryz.prog w = .ok (.slice none 0 0) w := by
  obtain ⟨i, hi, hi2⟩ := Option.map_eq_some_iff.1 Tryz.infoInt
  refine run_append_nothing w _ _ ty 3 i Tryz.underlying22 hi none 0 0 (Nat.le_refl _) _ ?_
  cases ad with
  | none => exact Src.ofNil w Tryz.underlying22 cap
  | some a => exact Src.ofSlice w Tryz.underlying22 a 0 cap [] (by simp) (fun j u h => by simp at h) (fun u h => by simp at h)
theorem wpList_append_zeroI {w : World} {ops : Array Oper} {rest : List Oper} {o : Oper} {a : Act} {Q : Exit → Act → World → Prop} (hgd : o.guard = none) (s x : Operand)
    (ho : o.op = .call { callee := .builtin .append, args := #[s, x], argTypes := #[22, 22] })
    (ad : Option Addr) (cap : Nat) (hs : a.eval s = .slice none 0 0) (hx : a.eval x = .slice ad 0 cap)
    (h : wpList Tryz.prog ops Q rest (a.put o.dst (.slice none 0 0)) w) : wpList Tryz.prog ops Q (o :: rest) a w := by
  refine wpList_plain hgd fun K hK => ?_
  have hrun := append_zeroI w o.type ad cap
  unfold Oper.wp
  simp [execOp, ho, resolve, invoke, builtin, hs, hx, hrun, Result.andThen]
  exact hK _ _ h

theorem numsAt_own {w : World} {base : Nat} {v : Value} {n : Nat} {z : Nat → Int} (h : w.ownsRow base 3 1 v n (numCells z n)) : NumsAt w v n z := by
  rcases h.2 with ⟨hv, h0⟩ | ⟨g, cap, cur, hv, _⟩
  · exact Or.inl ⟨none, 0, hv, h0⟩
  · rcases Nat.eq_zero_or_pos n with h0 | h0
    · exact Or.inl ⟨_, _, by rw [hv, h0], h0⟩
    · subst hv
      exact Or.inr ⟨g, 0, cap, rfl, h0, rowAt_of_row h⟩
set_option maxRecDepth 100000 in
set_option maxHeartbeats 1000000 in
theorem ints_row (v : Value) (n : Nat) (z : Nat → Int) (w : World) (h : NumsAt w v n z) (hn : n ≤ 100000) :
    Calls Tryz.prog 9 #[v] w fun e w' => ∃ v', e = .returned v' ∧ w'.ownsRow w.heap.size 3 1 v' n (numCells z n) ∧ Below w.heap.size w w' := by
  rcases h with ⟨ad, cap, rfl, rfl⟩ | ⟨b, o, cap, rfl, h0, hr⟩
  · go_enter Tryz.func9, Tryz.ntmps9
    go_wp2_with (at_builtin; go_must (refine wpList_append_zeroI rfl _ _ rfl ad cap rfl rfl ?_))
    go_ret
    exact ⟨_, rfl, ⟨rfl, Or.inl ⟨rfl, rfl⟩⟩, Below.refl _ _⟩
  · obtain ⟨i, hi, hi2⟩ := Option.map_eq_some_iff.1 Tryz.infoInt
    obtain ⟨hz, hsz, hby⟩ : i.zero = some (.int .i64 0) ∧ i.size = 1 ∧ i.bytes = 8 := by simpa using hi2
    have HR := Hid.mk' hr
    have HI : Hid (Tryz.prog.info? 3 = some i) := hi
    have HZ : Hid (i.zero = some (.int .i64 0)) := hz
    have HS : Hid (i.size = 1) := hsz
    have HY : Hid (i.bytes = 8) := hby
    have HC : Hid (∀ u, u ∈ numCells z n → u.oneCell' = true) := fun u hu => by obtain ⟨x, rfl⟩ := numCells_ints z n u hu; rfl
    have HL : Hid ((numCells z n).length = n * 1) := by show _ = _; rw [numCells_length, Nat.mul_one]
    clear hr hi2 hi hz hsz hby
    go_enter Tryz.func9, Tryz.ntmps9
    go_wp2_with (at_builtin; go_must (refine wpList_append_lies _ rfl _ _ _ rfl w.heap.size 3 i _ 1 8 Tryz.underlying22 HI.out HZ.out HS.out HY.out rfl (by omega) (.slice none 0 0) 0 [] rfl ⟨rfl, Or.inl ⟨rfl, rfl⟩⟩ ⟨b, o, none⟩ n cap (numCells z n) rfl HL.out (fun j u hu => numCells_news HR.out j u hu) HC.out h0 (by unfold maxLen; omega) (by omega) (by simp) _ rfl ?_; intro g cap' w1 hown hgrow hat hlt; have HOWN := Hid.mk' hown; have HG := Hid.mk' hgrow; clear hown hgrow hat))
    go_ret
    exact ⟨_, rfl, by simpa using HOWN.out, (Below.refl _ _).grown HG.out (Nat.le_refl _) (fun k hk => by cases hk)⟩
theorem ints_any (v : Value) (n : Nat) (z : Nat → Int) (w : World) (h : NumsAt w v n z) (hn : n ≤ 100000) :
    Calls Tryz.prog 9 #[v] w fun e w' => ∃ v', e = .returned v' ∧ NumsAt w' v' n z ∧ Below w.heap.size w w' := by
  refine (ints_row v n z w h hn).mono ?_
  rintro e w' ⟨v', rfl, h1, h2⟩
  exact ⟨v', rfl, numsAt_own h1, h2⟩
end Go.Proofs.YtofflboheiflaaaGreatDoor

/- coded of an error by its number. -/
namespace Go.Proofs.YtofflboheiflaaaGreatDoor
open Go.RowKit

theorem coded_errV (a : Nat → Addr) (c : Nat) (hc : c ≤ 8) (w : World) (h : Errs w a) :
    Calls Tryz.prog 10 #[errV a c, .int .i64 (c : Int)] w fun e w' => e = .returned (.bool true) ∧ Below w.heap.size w w' := by
  by_cases h0 : c = 0
  · subst h0
    rw [errV_zero]
    refine (coded_nil 0 w).mono ?_
    rintro e w' ⟨rfl, rfl⟩
    exact ⟨rfl, Below.refl _ _⟩
  · rw [errV_pos a h0]
    have h1 := coded_err a (c - 1) (by omega) (c : Int) w h
    have e : decide ((c : Int) = ((c - 1 : Nat) : Int) + 1) = true := decide_eq_true (by omega)
    rw [e] at h1
    exact h1
end Go.Proofs.YtofflboheiflaaaGreatDoor

/- The law DistVariation. -/
namespace Go.Proofs.YtofflboheiflaaaGreatDoor
open Go.RowKit

theorem twoErr_le3 (p q : Nat → Int) (n m : Nat) : twoErr p n q m ≤ 3 := by
  have h1 := weightsErr_le p n
  have h2 := weightsErr_le q m
  unfold twoErr
  repeat (split; omega)
  omega
set_option maxRecDepth 100000 in
set_option maxHeartbeats 2000000 in
theorem DistVariation_long (a : Nat → Addr) (ad ad' : Option Addr) (n cap m cap' : Nat) (w : World) (hE : Errs w a) (hn : ¬ (n ≤ 400 ∧ m ≤ 400)) (hm : n ≤ maxLen) (hm' : m ≤ maxLen) :
    Calls Tryz.prog 3 #[.slice ad n cap, .slice ad' m cap'] w fun e w' => e = .returned (.bool true) ∧ Below w.heap.size w w' := by
  have hC := coin_any a w hE
  unfold maxLen at hm hm'
  clear hE
  by_cases h1 : n ≤ 400
  · have h2 : ¬ m ≤ 400 := fun h => hn ⟨h1, h⟩
    clear hn
    have hd : decide (400 < (n : Int)) = false := decide_eq_false (by omega)
    have hd' : (400 : Int) < (m : Int) := by omega
    go_enter Tryz.func3, Tryz.ntmps3
    go_wp2_with (go_at_call 6; refine hC.mono ?_; rintro e w1 ⟨rfl, hb1⟩; have HB1 := Hid.mk' hb1; clear hb1)
    go_ret
    exact ⟨rfl, HB1.out⟩
  · clear hn
    have hd' : (400 : Int) < (n : Int) := by omega
    go_enter Tryz.func3, Tryz.ntmps3
    go_wp2_with (go_at_call 6; refine hC.mono ?_; rintro e w1 ⟨rfl, hb1⟩; have HB1 := Hid.mk' hb1; clear hb1)
    go_ret
    exact ⟨rfl, HB1.out⟩

set_option maxRecDepth 100000 in
set_option maxHeartbeats 4000000 in
theorem DistVariation_bad (a : Nat → Addr) (ad ad' : Option Addr) (n cap m cap' : Nat) (p q : Nat → Int) (w : World) (hE : Errs w a) (h : NumsAt w (.slice ad n cap) n p) (k : NumsAt w (.slice ad' m cap') m q) (hn : n ≤ 400) (hm : m ≤ 400) (h0 : twoErr p n q m ≠ 0) :
    Calls Tryz.prog 3 #[.slice ad n cap, .slice ad' m cap'] w fun e w' => e = .returned (.bool true) ∧ Below w.heap.size w w' := by
  have hC := coin_any a w hE
  have HN : Hid (∀ W, Below w.heap.size w W → NumsAt W (.slice ad n cap) n p) := fun W hb => h.later hb
  have HK : Hid (∀ W, Below w.heap.size w W → NumsAt W (.slice ad' m cap') m q) := fun W hb => k.later hb
  have HWE : Hid (∀ W, Below w.heap.size w W → Calls Tryz.prog 7 #[.slice ad n cap, .slice ad' m cap'] W fun e w' => e = .returned (.int .i64 (twoErr p n q m : Int)) ∧ w' = W) := fun W hb => TwoError_any _ _ n m p q W (h.later hb) (k.later hb) (by omega) (by omega)
  have HEN : Hid (∀ (W : World) (v u : Value), Below w.heap.size w W → NumsAt W v n p → NumsAt W u m q → Calls Tryz.prog 8 #[v, u] W fun e w' => e = .returned (.tuple #[.agg #[.int .i64 0, .int .i64 0], errV a (twoErr p n q m)]) ∧ Below W.heap.size W w') := fun W v u hb hv hu => Variation_bad a v u n m p q W (hE.below hb) hv hu hn hm h0
  have HCD : Hid (∀ W, Below w.heap.size w W → Calls Tryz.prog 10 #[errV a (twoErr p n q m), .int .i64 (twoErr p n q m : Int)] W fun e w' => e = .returned (.bool true) ∧ Below W.heap.size W w') := fun W hb => coded_errV a _ (by have := twoErr_le3 p q n m; omega) W (hE.below hb)
  have hd : decide (400 < (n : Int)) = false := decide_eq_false (by omega)
  have hd' : decide (400 < (m : Int)) = false := decide_eq_false (by omega)
  obtain ⟨ev, hev⟩ : ∃ ev, ev = errV a (twoErr p n q m) := ⟨_, rfl⟩
  rw [← hev] at HEN HCD
  generalize twoErr p n q m = c at *
  clear hE h k hev
  have hcb : (0 : Int) < (c : Int) := by omega
  go_enter Tryz.func3, Tryz.ntmps3
  go_wp2_with fail
  refine hC.mono ?_
  clear hC
  rintro e w1 ⟨rfl, hb1⟩
  have HB1 := Hid.mk' hb1
  clear hb1
  go_wp2_with (first
    | (go_at_call 7; refine (HWE.out w1 HB1.out).mono ?_; rintro e w2 ⟨rfl, hw2⟩; rw [hw2]; clear hw2)
    | (go_at_call_of 9 cap; refine (ints_any _ n p _ (HN.out _ HB1.out) (by omega)).mono ?_; rintro e w3 ⟨v3, rfl, hv3, hb3⟩; obtain ⟨ad3, cap3, rfl⟩ := hv3.form; have HV3 := Hid.mk' hv3; have HB3 := Hid.mk' hb3; clear hv3 hb3)
    | (go_at_call_of 9 cap'; refine (ints_any _ m q w3 (HK.out _ (below_chain HB1.out HB3.out)) (by omega)).mono ?_; rintro e w4 ⟨v4, rfl, hv4, hb4⟩; obtain ⟨ad4, cap4, rfl⟩ := hv4.form; have HV4 := Hid.mk' hv4; have HB4 := Hid.mk' hb4; clear hv4 hb4)
    | (go_at_call 8; refine (HEN.out w4 _ _ (below_chain (below_chain HB1.out HB3.out) HB4.out) (HV3.out.later HB4.out) HV4.out).mono ?_; rintro e w5 ⟨rfl, hb5⟩; have HBY := Hid.mk' (more_below (below_chain (below_chain (below_chain HB1.out HB3.out) HB4.out) hb5) (.cells #[.int .i64 0, .int .i64 0] 26)); clear hb5)
    | (go_at_call 10; refine (HCD.out _ HBY.out).mono ?_; rintro e w6 ⟨rfl, hb6⟩; have hh := res_past hb6; have y0 := hh.1; have y1 := hh.2.1; have HB6 := Hid.mk' (below_chain HBY.out hb6); clear hb6 hh))
  go_ret
  exact ⟨rfl, HB6.out⟩

set_option maxRecDepth 100000 in
set_option maxHeartbeats 4000000 in
theorem DistVariation_ok (a : Nat → Addr) (b o n cap b' o' cap' P Q : Nat) (p q : Nat → Int) (w : World) (hE : Errs w a) (h : RowAt w b o n p) (k : RowAt w b' o' n q) (h0 : twoErr p n q n = 0) (hP : sumN p n = P) (hQ : sumN q n = Q) :
    Calls Tryz.prog 3 #[.slice (some ⟨b, o, none⟩) n cap, .slice (some ⟨b', o', none⟩) n cap'] w fun e w' => e = .returned (.bool true) ∧ Below w.heap.size w w' := by
  have hC := coin_any a w hE
  obtain ⟨_, hn, hok1, hok2⟩ := twoErr_ok h0
  have h0n := hok1.posN
  have hP1 : 1 ≤ P ∧ P ≤ 4096 := by have := hok1.pos; have := hok1.le; omega
  have hQ1 : 1 ≤ Q ∧ Q ≤ 4096 := by have := hok2.pos; have := hok2.le; omega
  have HN : Hid (∀ W, Below w.heap.size w W → NumsAt W (.slice (some ⟨b, o, none⟩) n cap) n p) := fun W hb => Or.inr ⟨b, o, cap, rfl, h0n, h.later hb⟩
  have HK : Hid (∀ W, Below w.heap.size w W → NumsAt W (.slice (some ⟨b', o', none⟩) n cap') n q) := fun W hb => Or.inr ⟨b', o', cap', rfl, h0n, k.later hb⟩
  have HWE : Hid (∀ W, Below w.heap.size w W → Calls Tryz.prog 7 #[.slice (some ⟨b, o, none⟩) n cap, .slice (some ⟨b', o', none⟩) n cap'] W fun e w' => e = .returned (.int .i64 0) ∧ w' = W) := fun W hb => by
    have := TwoError_any _ _ n n p q W (HN.out W hb) (HK.out W hb) (by omega) (by omega)
    rw [h0] at this
    exact this
  have hM1 : 1 ≤ P * Q ∧ P * Q ≤ 16777216 := ⟨Nat.mul_pos hP1.1 hQ1.1, Nat.le_trans (Nat.mul_le_mul hP1.2 hQ1.2) (by decide)⟩
  obtain ⟨S, hS⟩ : ∃ S, S = sumN (apV p q P Q) n := ⟨_, rfl⟩
  have hS0 : 0 ≤ S ∧ S ≤ 268435456 := by
    have h1 := sumN_nonneg (z := apV p q P Q) (n := n) (fun i hi => (apV_le (hok1.lt hi) (hok2.lt hi) hP1.2 hQ1.2).1)
    have h2 := sumN_bound (f := apV p q P Q) (B := 16777216) (n := n) (fun i hi => by have := apV_le (hok1.lt hi) (hok2.lt hi) hP1.2 hQ1.2; omega)
    have : (n : Int) * 16777216 ≤ 268435456 := by omega
    omega
  obtain ⟨D, hD⟩ : ∃ D, D = 2 * (P * Q) := ⟨_, rfl⟩
  have hD1 : 1 ≤ D ∧ D ≤ 33554432 := by omega
  obtain ⟨y, hy⟩ : ∃ y : Nat, (y : Int) = lowN D S := by
    have h1 : 0 ≤ lowN D S := by unfold lowN; exact Int.tdiv_nonneg hS0.1 (by omega)
    exact ⟨(lowN D S).toNat, by omega⟩
  obtain ⟨d, hd0⟩ : ∃ d : Nat, d = lowD D S := ⟨_, rfl⟩
  have hyd : y ≤ 4611686018427387904 ∧ d ≤ 4611686018427387904 := by
    have h1 := lowN_le hD1.1 S
    have h2 := lowD_le D S
    rw [← hy] at h1
    rw [← hd0] at h2
    have h3 : y ≤ 268435456 := by omega
    have h4 : d ≤ 33554432 := by omega
    exact ⟨Nat.le_trans h3 (by decide), Nat.le_trans h4 (by decide)⟩
  have HEN : Hid (∀ (W : World) (v u : Value), Below w.heap.size w W → NumsAt W v n p → NumsAt W u n q → Calls Tryz.prog 8 #[v, u] W fun e w' => e = .returned (.tuple #[.agg #[.int .i64 y, .int .i64 d], .nilIface]) ∧ Below W.heap.size W w') := fun W v u hb hv hu => by
    rcases hv with ⟨_, _, _, h4⟩ | ⟨b1, o1, c1, rfl, _, hr1⟩
    · omega
    rcases hu with ⟨_, _, _, h4⟩ | ⟨b2, o2, c2, rfl, _, hr2⟩
    · omega
    have := Variation_right a b1 o1 c1 b2 o2 c2 n P Q _ p q W (hE.below hb) hr1 hr2 h0 hP hQ rfl
    rw [← hS, Nat.mul_assoc, ← hD] at this
    rw [hy, hd0]
    exact this
  have HVO : Hid (∀ W, Below w.heap.size w W → Calls Tryz.prog 12 #[.slice (some ⟨b, o, none⟩) n cap, .slice (some ⟨b', o', none⟩) n cap'] W fun e w' => ∃ r, e = .returned r ∧ RatioAt w' r (y : Int) d ∧ Below W.heap.size W w') := fun W hb => by
    have := VariationOf_right b o cap b' o' cap' n P Q p q W (h.later hb) (k.later hb) hok1 hok2 hn hP hQ
    rw [← hS, ← hD] at this
    rw [hy, hd0]
    exact this
  have HTO : Hid (∀ (W : World) (r : Value), RatioAt W r (y : Int) d → Calls Tryz.prog 11 #[r] W fun e w' => e = .returned (.tuple #[.agg #[.int .i64 y, .int .i64 d], .bool true]) ∧ Below W.heap.size W w') := fun W r hr => RTold_ok r y d W hr hyd.1 hyd.2
  have hd : decide (400 < (n : Int)) = false := decide_eq_false (by omega)
  clear hE h k h0 hok1 hok2 hP hQ hS hS0 hD hD1 hM1 hy hd0 hyd
  go_enter Tryz.func3, Tryz.ntmps3
  go_wp2_with fail
  refine hC.mono ?_
  clear hC
  rintro e w1 ⟨rfl, hb1⟩
  have HB1 := Hid.mk' hb1
  clear hb1
  go_wp2_with (first
    | (go_at_call 7; refine (HWE.out w1 HB1.out).mono ?_; rintro e w2 ⟨rfl, hw2⟩; rw [hw2]; clear hw2)
    | (go_at_call_of 9 cap; refine (ints_any _ n p _ (HN.out _ HB1.out) (by omega)).mono ?_; rintro e w3 ⟨v3, rfl, hv3, hb3⟩; obtain ⟨ad3, cap3, rfl⟩ := hv3.form; have HV3 := Hid.mk' hv3; have HB3 := Hid.mk' hb3; clear hv3 hb3)
    | (go_at_call_of 9 cap'; refine (ints_any _ n q w3 (HK.out _ (below_chain HB1.out HB3.out)) (by omega)).mono ?_; rintro e w4 ⟨v4, rfl, hv4, hb4⟩; obtain ⟨ad4, cap4, rfl⟩ := hv4.form; have HV4 := Hid.mk' hv4; have HB4 := Hid.mk' hb4; clear hv4 hb4)
    | (go_at_call 8; refine (HEN.out w4 _ _ (below_chain (below_chain HB1.out HB3.out) HB4.out) (HV3.out.later HB4.out) HV4.out).mono ?_; rintro e w5 ⟨rfl, hb5⟩; have HB5 := Hid.mk' (below_chain (below_chain (below_chain HB1.out HB3.out) HB4.out) hb5); have HBY := Hid.mk' (more_below HB5.out (.cells #[.int .i64 y, .int .i64 d] 26)); clear hb5)
    | (go_at_call 12; refine (HVO.out _ HBY.out).mono ?_; rintro e w6 ⟨r6, rfl, hr6, hb6⟩; have HR6 := Hid.mk' hr6; have HB6 := Hid.mk' hb6; clear hr6 hb6)
    | (go_at_call 11; refine (HTO.out w6 _ HR6.out).mono ?_; rintro e w7 ⟨rfl, hb7⟩; have hh := res_past (below_chain (below_chain HB6.out hb7) (new_below w7 (.cells #[.int .i64 y, .int .i64 d] 26))); have y0 := hh.1; have y1 := hh.2.1; have HB7 := Hid.mk' (below_chain (below_chain HBY.out HB6.out) (below_chain hb7 (new_below w7 (.cells #[.int .i64 y, .int .i64 d] 26)))); clear hb7 hh))
  go_ret
  exact ⟨rfl, HB7.out⟩

theorem DistVariation_all (a : Nat → Addr) (ad : Option Addr) (n cap : Nat) (p : Nat → Int) (ad' : Option Addr) (m cap' : Nat) (q : Nat → Int) (w : World) (hE : Errs w a) (h : NumsAt w (.slice ad n cap) n p) (hm : n ≤ maxLen) (k : NumsAt w (.slice ad' m cap') m q) (hm' : m ≤ maxLen) :
    Calls Tryz.prog 3 #[.slice ad n cap, .slice ad' m cap'] w fun e w' => e = .returned (.bool true) ∧ Below w.heap.size w w' := by
  by_cases hn : n ≤ 400 ∧ m ≤ 400
  · by_cases h0 : twoErr p n q m = 0
    · obtain ⟨rfl, h16, hok1, hok2⟩ := twoErr_ok h0
      have hp := hok1.posN
      obtain ⟨P, hP⟩ := Int.eq_ofNat_of_zero_le (Int.le_of_lt hok1.pos)
      obtain ⟨Q, hQ⟩ := Int.eq_ofNat_of_zero_le (Int.le_of_lt hok2.pos)
      rcases h with ⟨_, _, _, h4⟩ | ⟨b, o, c1, hv, _, hr⟩
      · omega
      rcases k with ⟨_, _, _, h4⟩ | ⟨b', o', c2, hu, _, kr⟩
      · omega
      simp only [Value.slice.injEq, true_and] at hv hu
      obtain ⟨rfl, rfl⟩ := hv
      obtain ⟨rfl, rfl⟩ := hu
      exact DistVariation_ok a b o n cap b' o' cap' P Q p q w hE hr kr h0 hP hQ
    · exact DistVariation_bad a ad ad' n cap m cap' p q w hE h k hn.1 hn.2 h0
  · exact DistVariation_long a ad ad' n cap m cap' w hE hn hm hm'
end Go.Proofs.YtofflboheiflaaaGreatDoor

/- What the rows' condition on package variables gives a walk: eight different sentinels with their texts, and the handle of the type error. -/
namespace Go.Proofs.YtofflboheiflaaaGreatDoor
open Go.ChangeShapes Go.WideShapes Go.RowKit

theorem Tryz.own : ownKnob Tryz.prog.godebug = none := by kernel_rfl
theorem Tryz.et : Tryz.prog.globalNamed "errors.errorType" = some 8 := by kernel_rfl
theorem Tryz.rt : (Tryz.prog.cutTypes.find? (·.1 == "internal/reflectlite.rtype")).map (·.2) = some 143 := by kernel_rfl
theorem Tryz.oneRow : ((List.range 211).filter fun t => Tryz.prog.rowNamed t [101, 114, 114, 111, 114]) = [28] := by kernel_rfl
theorem Tryz.size : Tryz.prog.types.size = 211 := by kernel_rfl
theorem Tryz.star : ("*" ++ "errors.errorString" : String) = "*errors.errorString" := by decide
theorem Tryz.rowE (u : TypeId) (h : Tryz.prog.typeName? 3 u = some "*errors.errorString") : u = 179 :=
  typeName_ptr_named (nm := "errors.errorString") (by rw [Tryz.star]; kernel_rfl) (by kernel_rfl) (by decide) u (by rw [Tryz.star]; exact h)
theorem Tryz.cellsE : Tryz.prog.cellsOf 199 = 1 := by kernel_rfl
theorem Tryz.cellsS : Tryz.prog.cellsOf 9 = 1 := by kernel_rfl
theorem Tryz.g0 : Tryz.prog.globalNamed "demon/api.ErrText" = some 2 := by kernel_rfl
theorem Tryz.g1 : Tryz.prog.globalNamed "demon/api.ErrBound" = some 3 := by kernel_rfl
theorem Tryz.g2 : Tryz.prog.globalNamed "demon/api.ErrShape" = some 1 := by kernel_rfl
theorem Tryz.g3 : Tryz.prog.globalNamed "demon/api.ErrZero" = some 0 := by kernel_rfl
theorem Tryz.g4 : Tryz.prog.globalNamed "demon/api.ErrName" = some 4 := by kernel_rfl
theorem Tryz.g5 : Tryz.prog.globalNamed "demon/api.ErrNone" = some 5 := by kernel_rfl
theorem Tryz.g6 : Tryz.prog.globalNamed "demon/api.ErrOrder" = some 6 := by kernel_rfl
theorem Tryz.g7 : Tryz.prog.globalNamed "demon/api.ErrKind" = some 7 := by kernel_rfl

/-- Any number of listed sentinels of one type: each one's pointer, text and row; no two are one. -/
theorem laid_list {P : Program} {W : World} {nm : String} {ti tp te ts : TypeId} {ms : Array (String × TypeId)} {f : Field}
    (hi : P.underlying ti = some (.interface ms)) (hrow : ∀ u, P.typeName? 3 u = some nm → u = tp)
    (hp : P.underlying tp = some (.pointer te)) (he : P.underlying te = some (.struct #[f])) (hft : f.type = ts) (hfo : f.offset = 0) (hs : P.underlying ts = some .string) (hc : P.cellsOf te = 1) (hcs : P.cellsOf ts = 1) :
    ∀ (L : List (String × List UInt8)) (ps : List MemPlace), (∀ x, x ∈ L → ∃ g, P.globalNamed x.1 = some g ∧ (P.globals[g]?).map (·.type) = some ti) →
      DataW.LaidVars P W (L.map fun x => (x.1, .iface nm (.ptr (.agg [.lit (.string x.2)])))) ps → ps.Nodup →
      (∀ b off, MemPlace.cell b off ∈ ps → (∃ c t, W.heap[b]? = some (.cells c t (0, 0))) ∧ ∀ u v, W.cell? ⟨b, off, none⟩ = some (.iface u v) → Value.okWide P W .any 0 u v) →
      ∃ a : Nat → Addr, (∀ i x, L[i]? = some x → W.var? P x.1 = some #[.iface tp (.pointer (some (a i)))] ∧ (∃ s, W.cell? (a i) = some (.string s) ∧ s.data.toList = x.2) ∧
          (∃ c t, W.heap[(a i).block]? = some (.cells c t (0, 0))) ∧ MemPlace.cell (a i).block (a i).off ∈ ps) ∧
        ∀ i j, i < L.length → j < L.length → i ≠ j → a i ≠ a j := by
  intro L
  induction L with
  | nil => intro ps _ _ _ _; exact ⟨fun _ => default, fun i x h => by simp at h, fun i j h => by simp at h⟩
  | cons x r ih =>
    intro ps hgs hv hnd hrows
    obtain ⟨n, text⟩ := x
    obtain ⟨g0, t0, cs0, f0, p0, q0, hg0, ht0, hv0, hd0, hvr, e0⟩ := hv
    obtain ⟨g, hg, ht⟩ := hgs (n, text) (List.mem_cons_self ..)
    obtain rfl := Option.some.inj (hg.symm.trans hg0)
    obtain rfl := Option.some.inj (ht.symm.trans ht0)
    subst e0
    obtain ⟨l0⟩ := cs0
    have ok0 : ∀ u v, l0 = [.iface u v] → Value.okWide P W .any 0 u v := fun u v e => by
      subst e
      exact (hrows g 0 (by simp [MemPlace.row])).2 u v (by simpa using World.var?_cell hg0 hv0 0)
    obtain ⟨a0, s0, rfl, hc0, hs0, hz0, rfl⟩ := errorString_of_trod hi hrow hp he hft hfo hs hc hcs hd0 ok0
    obtain ⟨c0, tt0, hb0⟩ := (hrows a0.block a0.off (by simp [MemPlace.row])).1
    have hnq : q0.Nodup := List.Nodup.sublist (List.sublist_append_right _ _) hnd
    obtain ⟨a', ha', hne'⟩ := ih q0 (fun x hx => hgs x (List.mem_cons_of_mem _ hx)) hvr hnq (fun b off hm => hrows b off (List.mem_append_right _ hm))
    have hnot : MemPlace.cell a0.block a0.off ∉ q0 := by
      intro hm
      have := (List.nodup_append.1 hnd).2.2
      exact this (.cell a0.block a0.off) (by simp [MemPlace.row]) (.cell a0.block a0.off) hm rfl
    refine ⟨fun i => match i with | 0 => a0 | k + 1 => a' k, ?_, ?_⟩
    · intro i x hx
      cases i with
      | zero =>
        simp only [List.getElem?_cons_zero, Option.some.injEq] at hx
        subst hx
        exact ⟨hv0, ⟨s0, hc0, hs0⟩, ⟨c0, tt0, hb0⟩, by simp [MemPlace.row]⟩
      | succ k =>
        simp only [List.getElem?_cons_succ] at hx
        obtain ⟨h1, h2, h3, h4⟩ := ha' k x hx
        exact ⟨h1, h2, h3, List.mem_append_right _ h4⟩
    · have far : ∀ k, k < r.length → a0 ≠ a' k := fun k hk e => by
        obtain ⟨_, _, _, h4⟩ := ha' k r[k] (by simp [hk])
        rw [← e] at h4
        exact hnot h4
      intro i j hi' hj' hij
      cases i with
      | zero =>
        cases j with
        | zero => exact absurd rfl hij
        | succ k => exact far k (by simpa using hj')
      | succ m =>
        cases j with
        | zero => exact (far m (by simpa using hi')).symm
        | succ k => exact hne' m k (by simpa using hi') (by simpa using hj') (by omega)

/-- The names and texts, in the rows' order. -/
def eightNames : List (String × List UInt8) := [("demon/api.ErrText", [100, 101, 109, 111, 110, 58, 32, 116, 101, 120, 116]), ("demon/api.ErrBound", [100, 101, 109, 111, 110, 58, 32, 98, 111, 117, 110, 100]), ("demon/api.ErrShape", [100, 101, 109, 111, 110, 58, 32, 115, 104, 97, 112, 101]), ("demon/api.ErrZero", [100, 101, 109, 111, 110, 58, 32, 122, 101, 114, 111]), ("demon/api.ErrName", [100, 101, 109, 111, 110, 58, 32, 110, 97, 109, 101]), ("demon/api.ErrNone", [100, 101, 109, 111, 110, 58, 32, 110, 111, 110, 101]), ("demon/api.ErrOrder", [100, 101, 109, 111, 110, 58, 32, 111, 114, 100, 101, 114]), ("demon/api.ErrKind", [100, 101, 109, 111, 110, 58, 32, 107, 105, 110, 100])]
def laidAll : List (String × DataW Unit) := [("errors.errorType", Rows.laid_errors_errorType), ("demon/api.ErrText", Rows.laid_demon_api_ErrText), ("demon/api.ErrBound", Rows.laid_demon_api_ErrBound), ("demon/api.ErrShape", Rows.laid_demon_api_ErrShape), ("demon/api.ErrZero", Rows.laid_demon_api_ErrZero), ("demon/api.ErrName", Rows.laid_demon_api_ErrName), ("demon/api.ErrNone", Rows.laid_demon_api_ErrNone), ("demon/api.ErrOrder", Rows.laid_demon_api_ErrOrder), ("demon/api.ErrKind", Rows.laid_demon_api_ErrKind)]
theorem laidAll_parts (W : World) : laidMetH Tryz.prog laidAll W = (laidMet Tryz.prog (eightNames.map fun x => (x.1, .iface "*errors.errorString" (.ptr (.agg [.lit (.string x.2)])))) W ∧ handlesMet Tryz.prog [("errors.errorType", Rows.laid_errors_errorType)] W) := by kernel_rfl

theorem var_at {W : World} {n : String} {g : Nat} {v : Value} (hg : Tryz.prog.globalNamed n = some g) (h : W.var? Tryz.prog n = some #[v]) : W.cell? ⟨g, 0, none⟩ = some v := by
  simpa using World.var?_cell hg h 0

theorem errs_of_laid {W : World} (h : laidMetH Tryz.prog laidAll W) : ∃ a : Nat → Addr, Errs W a ∧ ∀ i x, eightNames[i]? = some x → ∃ s, W.cell? (a i) = some (.string s) ∧ s.data.toList = x.2 := by
  rw [laidAll_parts] at h
  obtain ⟨⟨ps, hv, hnd, hrows⟩, hh⟩ := h
  obtain ⟨name, u, ty, e1, e2, e3, e4, e5⟩ := hh _ (List.mem_singleton.2 rfl)
  have en : name = [101, 114, 114, 111, 114] := (Option.some.inj e1).symm
  subst en
  obtain rfl := Option.some.inj (Tryz.rt.symm.trans e2)
  have hm : ty ∈ (List.range 211).filter fun t => Tryz.prog.rowNamed t [101, 114, 114, 111, 114] := List.mem_filter.2 ⟨List.mem_range.2 (by rw [← Tryz.size]; exact e3), e4⟩
  rw [Tryz.oneRow] at hm
  obtain rfl := List.mem_singleton.1 hm
  have hth : typeHandle Tryz.prog 28 = .pointer (some ⟨9, 28, none⟩) := by kernel_rfl
  rw [hth] at e5
  obtain ⟨a, ha, hne⟩ := laid_list Tryz.underlying28 Tryz.rowE Tryz.underlying179 Tryz.underlying199 rfl rfl Tryz.underlying9 Tryz.cellsE Tryz.cellsS eightNames ps
    (fun x hx => by
      simp only [eightNames, List.mem_cons, List.not_mem_nil, or_false] at hx
      rcases hx with rfl | rfl | rfl | rfl | rfl | rfl | rfl | rfl
      · exact ⟨_, Tryz.g0, by kernel_rfl⟩
      · exact ⟨_, Tryz.g1, by kernel_rfl⟩
      · exact ⟨_, Tryz.g2, by kernel_rfl⟩
      · exact ⟨_, Tryz.g3, by kernel_rfl⟩
      · exact ⟨_, Tryz.g4, by kernel_rfl⟩
      · exact ⟨_, Tryz.g5, by kernel_rfl⟩
      · exact ⟨_, Tryz.g6, by kernel_rfl⟩
      · exact ⟨_, Tryz.g7, by kernel_rfl⟩) hv hnd hrows
  refine ⟨a, ⟨var_at Tryz.g0 (ha 0 _ rfl).1, var_at Tryz.g1 (ha 1 _ rfl).1, var_at Tryz.g2 (ha 2 _ rfl).1, var_at Tryz.g3 (ha 3 _ rfl).1, var_at Tryz.g4 (ha 4 _ rfl).1, var_at Tryz.g5 (ha 5 _ rfl).1, var_at Tryz.g6 (ha 6 _ rfl).1, var_at Tryz.g7 (ha 7 _ rfl).1, var_at Tryz.et e5, ?_, ?_⟩, fun i x hx => (ha i x hx).2.1⟩
  · intro i hi
    have hl : eightNames.length = 8 := rfl
    exact (ha i eightNames[i] (List.getElem?_eq_getElem (by omega))).2.2.1
  · intro i j hi hj hij
    exact hne i j hi hj hij

/-- The door's own heap meets the condition. -/
theorem door_met (os : Os) (args : Array Value) : laidMetH Tryz.prog laidAll ((World.doorLaid Tryz.prog 168 os).forCall (fun _ _ => 0) ⟨#[], args, []⟩).memory :=
  laidMetH_of_parts3 (fuel := 8) (laidMet_of_run' 8 (by kernel_rfl) (by kernel_rfl)) (by kernel_rfl) (by kernel_rfl)
end Go.Proofs.YtofflboheiflaaaGreatDoor

/- A parameter of type []int opened. -/
namespace Go.Proofs.YtofflboheiflaaaGreatDoor
open Go.ChangeShapes Go.WideShapes Go.ChangeAt Go.RowKit Go.Joins Go.Deep

theorem Tryz.laidOut : laidOutB Tryz.prog = true := by kernel_rfl
theorem Tryz.cellsInt : Tryz.prog.cellsOf 3 = 1 := by kernel_rfl
theorem Tryz.cellsInts : Tryz.prog.cellsOf 22 = 1 := by kernel_rfl

set_option maxRecDepth 100000 in
/-- What a parameter of type []int gives: its slice, its numbers. -/
theorem open_nums {H : Type} {enc : TypeId × Value → H} {W : World} {base : Nat} {v : Value} {d : DataW H} {p : List MemPlace} (hv : Value.okWide Tryz.prog W .any base 22 v)
    (h : DataW.Trod enc Tryz.prog W 0 (fun _ => true) true 22 v d p) :
    ∃ (ad : Option Addr) (n cap : Nat) (z : Nat → Int), v = .slice ad n cap ∧ n ≤ maxLen ∧ NumsAt W (.slice ad n cap) n z := by
  obtain ⟨ad, n, cap, rfl⟩ := okWide_slice Tryz.underlying22 hv
  obtain ⟨fuel, hf⟩ := h
  rcases open_ints Tryz.underlying22 Tryz.underlying3 Tryz.cellsInt hf with ⟨hc, _⟩ | ⟨a, len, cap', zs, hc, _, hl, hm, hz, _, hcell, _⟩
  · simp [Value.cells] at hc
    obtain ⟨rfl, rfl, rfl⟩ := hc
    exact ⟨none, 0, 0, fun _ => 0, rfl, Nat.zero_le _, Or.inl ⟨none, 0, rfl, rfl⟩⟩
  · simp [Value.cells] at hc
    obtain ⟨rfl, rfl, rfl⟩ := hc
    simp only [if_true] at hz
    rcases Nat.eq_zero_or_pos n with rfl | hpos
    · exact ⟨some a, 0, cap, fun _ => 0, rfl, Nat.zero_le _, Or.inl ⟨some a, cap, rfl, rfl⟩⟩
    · obtain ⟨b, o, spot⟩ := a
      have hspot : spot = none := by simpa [Addr.add] using World.cell?_spot (hcell 0 (by omega))
      subst hspot
      refine ⟨_, n, cap, fun i => zs.getD i 0, rfl, by omega, Or.inr ⟨b, o, cap, rfl, hpos, fun i hi => ?_⟩⟩
      have := hcell i (by omega)
      rw [Go.Proofs.YtofflboheiflaaaGreatDoor.add_plain] at this
      exact this
end Go.Proofs.YtofflboheiflaaaGreatDoor
