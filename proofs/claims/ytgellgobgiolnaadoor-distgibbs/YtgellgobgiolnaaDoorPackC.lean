/- The law's copies of lists. -/
import Derived.Test.YtgellgobgiolnaaDoorWeights
import Derived.Test.YtgellgobgiolnaaDoorBig
import Derived.Test.YtgellgobgiolnaaDoorCode
import Derived.Test.YtgellgobgiolnaaDoorPackB
import Derived.Test.YtgellgobgiolnaaDoorRows
import Derived.ChangeSame
import Derived.ChangeVars
import Derived.JoinedOf
import Derived.LaidLaws
import Derived.LaidHandle
import Derived.LaidMore
import Derived.Stop.Joined
import Derived.Test.YtgellgobgiolnaaDoorInts
import Derived.Test.YtgellgobgiolnaaDoorCards
import Derived.Test.YtgellgobgiolnaaDoorTie
import Derived.SevenTiedAt
import Derived.ProofKit
import Derived.OpenShut
import Derived.ChangeOld
import Derived.Lib.SmallJoins
import Derived.Deep.Matrix
namespace Go.Proofs.YtgellgobgiolnaaDoor
open Go.RowKit

theorem append_zeroI (w : World) (ty : TypeId) (ad : Option Addr) (cap : Nat) : (Builtin.append_ #[22, 22] ty #[.slice none 0 0, .slice ad 0 cap]).run Tryd.prog w = .ok (.slice none 0 0) w := by
  obtain ⟨i, hi, hi2⟩ := Option.map_eq_some_iff.1 Tryd.infoInt
  refine run_append_nothing w _ _ ty 3 i Tryd.underlying22 hi none 0 0 (Nat.le_refl _) _ ?_
  cases ad with
  | none => exact Src.ofNil w Tryd.underlying22 cap
  | some a => exact Src.ofSlice w Tryd.underlying22 a 0 cap [] (by simp) (fun j u h => by simp at h) (fun u h => by simp at h)
theorem wpList_append_zeroI {w : World} {ops : Array Oper} {rest : List Oper} {o : Oper} {a : Act} {Q : Exit → Act → World → Prop} (hgd : o.guard = none) (s x : Operand)
    (ho : o.op = .call { callee := .builtin .append, args := #[s, x], argTypes := #[22, 22] })
    (ad : Option Addr) (cap : Nat) (hs : a.eval s = .slice none 0 0) (hx : a.eval x = .slice ad 0 cap)
    (h : wpList Tryd.prog ops Q rest (a.put o.dst (.slice none 0 0)) w) : wpList Tryd.prog ops Q (o :: rest) a w := by
  refine wpList_plain hgd fun K hK => ?_
  have hrun := append_zeroI w o.type ad cap
  unfold Oper.wp
  simp [execOp, ho, resolve, invoke, builtin, hs, hx, hrun, Result.andThen]
  exact hK _ _ h

theorem numsAt_own {w : World} {base : Nat} {v : Value} {n : Nat} {z : Nat → Int} (h : w.ownsRow base 3 1 v n (numCells z n)) : NumsAt w v n z := by
  rcases h.2 with ⟨hv, h0⟩ | ⟨g, cap, cur, hv, _⟩
  · exact Or.inl ⟨none, 0, hv, h0⟩
  · rcases Nat.eq_zero_or_pos n with h0 | h0
    · exact Or.inl ⟨_, _, by rw [hv, h0], h0⟩
    · subst hv
      exact Or.inr ⟨g, 0, cap, rfl, h0, rowAt_of_row h⟩
set_option maxRecDepth 100000 in
set_option maxHeartbeats 1000000 in
theorem ints_row (v : Value) (n : Nat) (z : Nat → Int) (w : World) (h : NumsAt w v n z) (hn : n ≤ 400) :
    Calls Tryd.prog 9 #[v] w fun e w' => ∃ v', e = .returned v' ∧ w'.ownsRow w.heap.size 3 1 v' n (numCells z n) ∧ Below w.heap.size w w' := by
  rcases h with ⟨ad, cap, rfl, rfl⟩ | ⟨b, o, cap, rfl, h0, hr⟩
  · go_enter Tryd.func9, Tryd.ntmps9
    go_wp2_with (at_builtin; go_must (refine wpList_append_zeroI rfl _ _ rfl ad cap rfl rfl ?_))
    go_ret
    exact ⟨_, rfl, ⟨rfl, Or.inl ⟨rfl, rfl⟩⟩, Below.refl _ _⟩
  · obtain ⟨i, hi, hi2⟩ := Option.map_eq_some_iff.1 Tryd.infoInt
    obtain ⟨hz, hsz, hby⟩ : i.zero = some (.int .i64 0) ∧ i.size = 1 ∧ i.bytes = 8 := by simpa using hi2
    have HR := Hid.mk' hr
    have HI : Hid (Tryd.prog.info? 3 = some i) := hi
    have HZ : Hid (i.zero = some (.int .i64 0)) := hz
    have HS : Hid (i.size = 1) := hsz
    have HY : Hid (i.bytes = 8) := hby
    have HC : Hid (∀ u, u ∈ numCells z n → u.oneCell' = true) := fun u hu => by obtain ⟨x, rfl⟩ := numCells_ints z n u hu; rfl
    have HL : Hid ((numCells z n).length = n * 1) := by show _ = _; rw [numCells_length, Nat.mul_one]
    clear hr hi2 hi hz hsz hby
    go_enter Tryd.func9, Tryd.ntmps9
    go_wp2_with (at_builtin; go_must (refine wpList_append_lies _ rfl _ _ _ rfl w.heap.size 3 i _ 1 8 Tryd.underlying22 HI.out HZ.out HS.out HY.out rfl (by omega) (.slice none 0 0) 0 [] rfl ⟨rfl, Or.inl ⟨rfl, rfl⟩⟩ ⟨b, o, none⟩ n cap (numCells z n) rfl HL.out (fun j u hu => numCells_news HR.out j u hu) HC.out h0 (by unfold maxLen; omega) (by omega) (by simp) _ rfl ?_; intro g cap' w1 hown hgrow hat hlt; have HOWN := Hid.mk' hown; have HG := Hid.mk' hgrow; clear hown hgrow hat))
    go_ret
    exact ⟨_, rfl, by simpa using HOWN.out, (Below.refl _ _).grown HG.out (Nat.le_refl _) (fun k hk => by cases hk)⟩
theorem ints_any (v : Value) (n : Nat) (z : Nat → Int) (w : World) (h : NumsAt w v n z) (hn : n ≤ 400) :
    Calls Tryd.prog 9 #[v] w fun e w' => ∃ v', e = .returned v' ∧ NumsAt w' v' n z ∧ Below w.heap.size w w' := by
  refine (ints_row v n z w h hn).mono ?_
  rintro e w' ⟨v', rfl, h1, h2⟩
  exact ⟨v', rfl, numsAt_own h1, h2⟩
end Go.Proofs.YtgellgobgiolnaaDoor

/- coded of an error by its number. -/
namespace Go.Proofs.YtgellgobgiolnaaDoor
open Go.RowKit

theorem coded_errV (a : Nat → Addr) (c : Nat) (hc : c ≤ 8) (w : World) (h : Errs w a) :
    Calls Tryd.prog 7 #[errV a c, .int .i64 (c : Int)] w fun e w' => e = .returned (.bool true) ∧ Below w.heap.size w w' := by
  by_cases h0 : c = 0
  · subst h0
    rw [errV_zero]
    refine (coded_nil 0 w).mono ?_
    rintro e w' ⟨rfl, rfl⟩
    exact ⟨rfl, Below.refl _ _⟩
  · rw [errV_pos a h0]
    have h1 := coded_err a (c - 1) (by omega) (c : Int) w h
    have e : decide ((c : Int) = ((c - 1 : Nat) : Int) + 1) = true := decide_eq_true (by omega)
    rw [e] at h1
    exact h1
end Go.Proofs.YtgellgobgiolnaaDoor

/- The law DistGibbs. -/
namespace Go.Proofs.YtgellgobgiolnaaDoor
open Go.RowKit

theorem twoErr_le3 (p q : Nat → Int) (n m : Nat) : twoErr p n q m ≤ 3 := by
  have h1 := weightsErr_le p n
  have h2 := weightsErr_le q m
  unfold twoErr
  repeat (split; omega)
  omega
theorem apV_zero {p q : Nat → Int} {P Q n : Nat} : sumN (apV p q P Q) n = 0 ↔ ∀ i, i < n → p i * (Q : Int) = q i * (P : Int) := by
  have e := sumA_nat (z := apV p q P Q) (a := fun i => (p i * Q - q i * P).natAbs) (n := n) (fun i _ => rfl)
  constructor
  · intro h i hi
    have h1 : sumA (fun i => (p i * Q - q i * P).natAbs) n = 0 := by omega
    have := sum_zero h1 i hi
    omega
  · intro h
    have aux : ∀ k, k ≤ n → sumN (apV p q P Q) k = 0 := by
      intro k
      induction k with
      | zero => intro _; rfl
      | succ k ih =>
        intro hk
        show sumN (apV p q P Q) k + apV p q P Q k = 0
        rw [ih (by omega)]
        unfold apV
        rw [h k (by omega)]
        simp
    exact aux n (Nat.le_refl _)
theorem lowN_zero (M : Nat) (z : Int) : z.tdiv ((Nat.gcd z.natAbs M : Nat) : Int) = 0 ↔ z = 0 := by
  constructor
  · intro h
    have hg : ((Nat.gcd z.natAbs M : Nat) : Int) ∣ z := Int.ofNat_dvd_left.2 (Nat.gcd_dvd_left _ _)
    have := Int.mul_tdiv_cancel' hg
    rw [h] at this
    omega
  · intro h
    subst h
    simp
/-- What the sign and how far apart they are have in common. -/
theorem gibbs_two {p q : Nat → Int} {P Q n : Nat} (hp : ∀ i, i < n → 0 ≤ p i) (hq : ∀ i, i < n → 0 ≤ q i) (hP : sumN p n = P) (hQ : sumN q n = Q) (hP0 : 0 < P) (hQ0 : 0 < Q) (hz : ∀ i, i < n → 0 < p i → 0 < q i) :
    ∃ U D : Nat, 0 < U ∧ 0 < D ∧ (∀ x : Nat, Pr x → sumN (divV p q P Q (x : Int)) n = (mult x U : Int) - (mult x D : Int)) ∧ D ≤ U ∧ (U = D ↔ sumN (apV p q P Q) n = 0) := by
  have e1 : ∀ i, i < n → p i = ((fun i => (p i).toNat) i : Int) := fun i hi => by have := hp i hi; dsimp only; omega
  have e2 : ∀ i, i < n → q i = ((fun i => (q i).toNat) i : Int) := fun i hi => by have := hq i hi; dsimp only; omega
  have s1 := sumA_nat e1
  have s2 := sumA_nat e2
  have hz' : ∀ i, i < n → 0 < (fun i => (p i).toNat) i → 0 < (fun i => (q i).toNat) i := fun i hi h => by
    have := hz i hi (by dsimp only at h; omega)
    dsimp only
    omega
  obtain ⟨u, d, hm⟩ := div_sides (P := P) (Q := Q) e1 e2 hP0 hQ0 hz'
  obtain ⟨g1, g2, g3⟩ := gibbs (a := fun i => (p i).toNat) (b := fun i => (q i).toNat) (P := P) (Q := Q) (n := n) (by omega) (by omega) hz'
  refine ⟨_, _, u, d, hm, g1, ?_⟩
  rw [apV_zero]
  have hc : (∀ i, i < n → (p i).toNat * Q = (q i).toNat * P) ↔ ∀ i, i < n → p i * (Q : Int) = q i * (P : Int) := by
    constructor
    · intro h i hi
      have h1 := congrArg (fun x : Nat => (x : Int)) (h i hi)
      simp only [Int.natCast_mul] at h1
      have h2 := e1 i hi
      have h3 := e2 i hi
      dsimp only at h2 h3
      rw [← h2, ← h3] at h1
      exact h1
    · intro h i hi
      have h1 := h i hi
      have h2 := e1 i hi
      have h3 := e2 i hi
      dsimp only at h2 h3
      rw [h2, h3] at h1
      exact Int.ofNat_inj.1 (by simpa using h1)
  exact ⟨fun h => hc.1 (g2 h), fun h => g3 (hc.2 h) hP0 hQ0⟩

set_option maxRecDepth 100000 in
set_option maxHeartbeats 2000000 in
theorem DistGibbs_long (a : Nat → Addr) (ad ad' : Option Addr) (n cap m cap' : Nat) (w : World) (hE : Errs w a) (hn : ¬ (n ≤ 16 ∧ m ≤ 16)) (hm : n ≤ maxLen) (hm' : m ≤ maxLen) :
    Calls Tryd.prog 4 #[.slice ad n cap, .slice ad' m cap'] w fun e w' => e = .returned (.bool true) ∧ Below w.heap.size w w' := by
  have hC := coin_any a w hE
  unfold maxLen at hm hm'
  clear hE
  by_cases h1 : n ≤ 16
  · have h2 : ¬ m ≤ 16 := fun h => hn ⟨h1, h⟩
    clear hn
    have hd : decide (16 < (n : Int)) = false := decide_eq_false (by omega)
    have hd' : (16 : Int) < (m : Int) := by omega
    go_enter Tryd.func4, Tryd.ntmps4
    go_wp2_with (go_at_call 5; refine hC.mono ?_; rintro e w1 ⟨rfl, hb1⟩; have HB1 := Hid.mk' hb1; clear hb1)
    go_ret
    exact ⟨rfl, HB1.out⟩
  · clear hn
    have hd' : (16 : Int) < (n : Int) := by omega
    go_enter Tryd.func4, Tryd.ntmps4
    go_wp2_with (go_at_call 5; refine hC.mono ?_; rintro e w1 ⟨rfl, hb1⟩; have HB1 := Hid.mk' hb1; clear hb1)
    go_ret
    exact ⟨rfl, HB1.out⟩

set_option maxRecDepth 100000 in
set_option maxHeartbeats 2000000 in
theorem DistGibbs_bad (a : Nat → Addr) (ad ad' : Option Addr) (n cap m cap' : Nat) (p q : Nat → Int) (w : World) (hE : Errs w a) (h : NumsAt w (.slice ad n cap) n p) (k : NumsAt w (.slice ad' m cap') m q) (hn : n ≤ 16) (hm : m ≤ 16) (h0 : twoErr p n q m ≠ 0) :
    Calls Tryd.prog 4 #[.slice ad n cap, .slice ad' m cap'] w fun e w' => e = .returned (.bool true) ∧ Below w.heap.size w w' := by
  have hC := coin_any a w hE
  have HWE : Hid (∀ W, Below w.heap.size w W → Calls Tryd.prog 14 #[.slice ad n cap, .slice ad' m cap'] W fun e w' => e = .returned (.int .i64 (twoErr p n q m : Int)) ∧ w' = W) := fun W hb => TwoError_any _ _ n m p q W (h.later hb) (k.later hb) (by omega) (by omega)
  have hd : decide (16 < (n : Int)) = false := decide_eq_false (by omega)
  have hd' : decide (16 < (m : Int)) = false := decide_eq_false (by omega)
  generalize twoErr p n q m = c at *
  clear hE h k
  have hcb : (0 : Int) < (c : Int) := by omega
  go_enter Tryd.func4, Tryd.ntmps4
  go_wp2_with (first
    | (go_at_call 5; refine hC.mono ?_; rintro e w1 ⟨rfl, hb1⟩; have HB1 := Hid.mk' hb1; clear hb1)
    | (go_at_call 14; refine (HWE.out w1 HB1.out).mono ?_; rintro e w2 ⟨rfl, hw2⟩; rw [hw2]; clear hw2))
  go_ret
  exact ⟨rfl, HB1.out⟩

set_option maxRecDepth 100000 in
set_option maxHeartbeats 4000000 in
theorem DistGibbs_ok (a : Nat → Addr) (b o n cap b' o' cap' P Q : Nat) (p q : Nat → Int) (w : World) (hE : Errs w a) (h : RowAt w b o n p) (k : RowAt w b' o' n q) (h0 : twoErr p n q n = 0) (hP : sumN p n = P) (hQ : sumN q n = Q) :
    Calls Tryd.prog 4 #[.slice (some ⟨b, o, none⟩) n cap, .slice (some ⟨b', o', none⟩) n cap'] w fun e w' => e = .returned (.bool true) ∧ Below w.heap.size w w' := by
  have hC := coin_any a w hE
  obtain ⟨_, hn, hok1, hok2⟩ := twoErr_ok h0
  have h0n := hok1.posN
  have hP1 : 1 ≤ P ∧ P ≤ 4096 := by have := hok1.pos; have := hok1.le; omega
  have hQ1 : 1 ≤ Q ∧ Q ≤ 4096 := by have := hok2.pos; have := hok2.le; omega
  have HN : Hid (∀ W, Below w.heap.size w W → NumsAt W (.slice (some ⟨b, o, none⟩) n cap) n p) := fun W hb => Or.inr ⟨b, o, cap, rfl, h0n, h.later hb⟩
  have HK : Hid (∀ W, Below w.heap.size w W → NumsAt W (.slice (some ⟨b', o', none⟩) n cap') n q) := fun W hb => Or.inr ⟨b', o', cap', rfl, h0n, k.later hb⟩
  have HWE : Hid (∀ W, Below w.heap.size w W → Calls Tryd.prog 14 #[.slice (some ⟨b, o, none⟩) n cap, .slice (some ⟨b', o', none⟩) n cap'] W fun e w' => e = .returned (.int .i64 0) ∧ w' = W) := fun W hb => by
    have := TwoError_any _ _ n n p q W (HN.out W hb) (HK.out W hb) (by omega) (by omega)
    rw [h0] at this
    exact this
  have HDI : Hid (∀ (W : World) (v u : Value), Below w.heap.size w W → NumsAt W v n p → NumsAt W u n q → Calls Tryd.prog 15 #[v, u] W fun e w' => ((zeroB p q n = true ∧ e = .returned (.tuple #[.agg #[.int .i64 0, .slice none 0 0], errV a 4])) ∨ (zeroB p q n = false ∧ ∃ dn v, e = .returned (.tuple #[.agg #[.int .i64 dn, v], .nilIface]) ∧ LogBy W.heap.size P (fun x => sumN (divV p q P Q x) n) w' dn v)) ∧ Below W.heap.size W w') := fun W v u hb hv hu => by
    rcases hv with ⟨_, _, _, h4⟩ | ⟨b1, o1, c1, rfl, _, hr1⟩
    · omega
    rcases hu with ⟨_, _, _, h4⟩ | ⟨b2, o2, c2, rfl, _, hr2⟩
    · omega
    exact Divergence_right a b1 o1 c1 b2 o2 c2 n P Q p q W (hE.below hb) hr1 hr2 h0 hP hQ
  have hd : decide (16 < (n : Int)) = false := decide_eq_false (by omega)
  have HE : Hid (∀ W, Below w.heap.size w W → Errs W a) := fun W hb => hE.below hb
  by_cases hzb : zeroB p q n = true
  · have HDI' : Hid (∀ (W : World) (v u : Value), Below w.heap.size w W → NumsAt W v n p → NumsAt W u n q → Calls Tryd.prog 15 #[v, u] W fun e w' => e = .returned (.tuple #[.agg #[.int .i64 0, .slice none 0 0], .iface 155 (.pointer (some (a 3)))]) ∧ Below W.heap.size W w') := fun W v u hb hv hu => (HDI.out W v u hb hv hu).mono (fun e w' hx => by
      obtain ⟨h1 | h1, h2⟩ := hx
      · exact ⟨h1.2, h2⟩
      · rw [hzb] at h1; cases h1.1)
    have HCD : Hid (∀ W, Below w.heap.size w W → Calls Tryd.prog 7 #[.iface 155 (.pointer (some (a 3))), .int .i64 4] W fun e w' => e = .returned (.bool true) ∧ Below W.heap.size W w') := fun W hb => coded_errV a 4 (by omega) W (HE.out W hb)
    generalize a 3 = ea at HDI' HCD
    clear hE h k h0 hok1 hok2 hP hQ HDI HE hzb
    go_enter Tryd.func4, Tryd.ntmps4
    go_wp2_with (first
      | (go_at_call 5; refine hC.mono ?_; rintro e w1 ⟨rfl, hb1⟩; have HB1 := Hid.mk' hb1; clear hb1)
      | (go_at_call 14; refine (HWE.out w1 HB1.out).mono ?_; rintro e w2 ⟨rfl, hw2⟩; rw [hw2]; clear hw2)
      | (go_at_call_of 9 cap; refine (ints_any _ n p _ (HN.out _ HB1.out) (by omega)).mono ?_; rintro e w3 ⟨v3, rfl, hv3, hb3⟩; obtain ⟨ad3, cap3, rfl⟩ := hv3.form; have HV3 := Hid.mk' hv3; have HB3 := Hid.mk' hb3; clear hv3 hb3)
      | (go_at_call_of 9 cap'; refine (ints_any _ n q w3 (HK.out _ (below_chain HB1.out HB3.out)) (by omega)).mono ?_; rintro e w4 ⟨v4, rfl, hv4, hb4⟩; obtain ⟨ad4, cap4, rfl⟩ := hv4.form; have HV4 := Hid.mk' hv4; have HB4 := Hid.mk' hb4; clear hv4 hb4)
      | (go_at_call 15; refine (HDI'.out w4 _ _ (below_chain (below_chain HB1.out HB3.out) HB4.out) (HV3.out.later HB4.out) HV4.out).mono ?_; rintro e w5 ⟨rfl, hb5⟩; have HBY := Hid.mk' (more_below (below_chain (below_chain (below_chain HB1.out HB3.out) HB4.out) hb5) (.cells #[.int .i64 0, .slice none 0 0] 39)); clear hb5)
      | (go_at_call 7; refine (HCD.out _ HBY.out).mono ?_; rintro e w6 ⟨rfl, hb6⟩; have HB6 := Hid.mk' (below_chain HBY.out hb6); clear hb6))
    go_ret
    exact ⟨rfl, HB6.out⟩
  · have hzf : zeroB p q n = false := by simpa using hzb
    have hzz : ∀ i, i < n → 0 < p i → 0 < q i := fun i hi h1 => by
      have h2 := hok2.lt hi
      rcases Int.lt_or_le 0 (q i) with h3 | h3
      · exact h3
      · exact absurd ((zeroB_iff p q n).2 ⟨i, hi, h1, by omega⟩) hzb
    have hprim := div_prim (p := p) (q := q) (P := P) (Q := Q) (n := n) (fun i hi => hok1.lt hi) (fun i hi => hok2.lt hi) hn hP1 hQ1 hzz
    obtain ⟨U, D, hU, hD, hm, hDU, hUD⟩ := gibbs_two (p := p) (q := q) (P := P) (Q := Q) (n := n) (fun i hi => (hok1.lt hi).1) (fun i hi => (hok2.lt hi).1) hP hQ hP1.1 hQ1.1 hzz
    obtain ⟨y, d, hyz, HVA⟩ : ∃ (y : Int) (d : Nat), (y = 0 ↔ U = D) ∧ Hid (∀ (W : World) (v u : Value), Below w.heap.size w W → NumsAt W v n p → NumsAt W u n q → Calls Tryd.prog 17 #[v, u] W fun e w' => e = .returned (.tuple #[.agg #[.int .i64 y, .int .i64 d], .nilIface]) ∧ Below W.heap.size W w') := by
      refine ⟨(sumN (apV p q P Q) n).tdiv ((Nat.gcd (sumN (apV p q P Q) n).natAbs (2 * P * Q) : Nat) : Int), 2 * P * Q / Nat.gcd (sumN (apV p q P Q) n).natAbs (2 * P * Q), ?_, fun W v u hb hv hu => ?_⟩
      rotate_left
      · rcases hv with ⟨_, _, _, h4⟩ | ⟨b1, o1, c1, rfl, _, hr1⟩
        · omega
        rcases hu with ⟨_, _, _, h4⟩ | ⟨b2, o2, c2, rfl, _, hr2⟩
        · omega
        exact Variation_right a b1 o1 c1 b2 o2 c2 n P Q _ p q W (hE.below hb) hr1 hr2 h0 hP hQ rfl
      · rw [lowN_zero (2 * P * Q), hUD]
    obtain ⟨z, hz⟩ : ∃ z : Int, (z = 0 ∧ y = 0) ∨ (z = 1 ∧ y ≠ 0) := by
      by_cases hy : y = 0
      · exact ⟨0, Or.inl ⟨rfl, hy⟩⟩
      · exact ⟨1, Or.inr ⟨rfl, hy⟩⟩
    have HSG : Hid (∀ (W : World) (dn : Int) (v : Value) (base : Nat), Below w.heap.size w W → LogBy base P (fun x => sumN (divV p q P Q x) n) W dn v → Calls Tryd.prog 16 #[.agg #[.int .i64 dn, v]] W fun e w' => (e = .returned (.tuple #[.int .i64 z, .nilIface]) ∨ e = .returned (.tuple #[.int .i64 0, .iface 155 (.pointer (some (a 1)))])) ∧ Below W.heap.size W w') := fun W dn v base hb hl => by
      refine (Sign_by a W (hE.below hb) hl hP1.1 (by omega) hprim hU hD hm).mono ?_
      rintro e w' ⟨⟨z', rfl, k1, k2, k3⟩ | rfl, hb'⟩
      · refine ⟨Or.inl ?_, hb'⟩
        have : z' = z := by
          rcases hz with ⟨rfl, h2⟩ | ⟨rfl, h2⟩
          · exact k2 (hyz.1 h2)
          · refine k1 ?_
            have : U ≠ D := fun e => h2 (hyz.2 e)
            omega
        rw [this]
      · exact ⟨Or.inr rfl, hb'⟩
    have HDI' : Hid (∀ (W : World) (v u : Value), Below w.heap.size w W → NumsAt W v n p → NumsAt W u n q → Calls Tryd.prog 15 #[v, u] W fun e w' => ∃ dn v, e = .returned (.tuple #[.agg #[.int .i64 dn, v], .nilIface]) ∧ LogBy W.heap.size P (fun x => sumN (divV p q P Q x) n) w' dn v ∧ Below W.heap.size W w') := fun W v u hb hv hu => (HDI.out W v u hb hv hu).mono (fun e w' hx => by
      obtain ⟨h1 | ⟨_, dn, v, rfl, h3⟩, h2⟩ := hx
      · rw [hzf] at h1; cases h1.1
      · exact ⟨dn, v, rfl, h3, h2⟩)
    have HCD : Hid (∀ W, Below w.heap.size w W → Calls Tryd.prog 7 #[.iface 155 (.pointer (some (a 1))), .int .i64 2] W fun e w' => e = .returned (.bool true) ∧ Below W.heap.size W w') := fun W hb => coded_errV a 2 (by omega) W (HE.out W hb)
    generalize a 1 = ea at HSG HCD
    have HZ := Hid.mk' hz
    clear hE h k h0 hok1 hok2 hP hQ HDI HE hzb hzf hzz hprim hm hDU hUD hyz hU hD hz
    go_enter Tryd.func4, Tryd.ntmps4
    go_wp2_with fail
    refine hC.mono ?_
    clear hC
    rintro e w1 ⟨rfl, hb1⟩
    have HB1 := Hid.mk' hb1
    clear hb1
    go_wp2_with fail
    refine (HWE.out w1 HB1.out).mono ?_
    rintro e w2 ⟨rfl, hw2⟩
    rw [hw2]
    clear hw2
    go_wp2_with fail
    refine (ints_any _ n p _ (HN.out _ HB1.out) (by omega)).mono ?_
    rintro e w3 ⟨v3, rfl, hv3, hb3⟩
    obtain ⟨ad3, cap3, rfl⟩ := hv3.form
    go_wp2_with fail
    refine (ints_any _ n q w3 (HK.out _ (below_chain HB1.out hb3)) (by omega)).mono ?_
    rintro e w4 ⟨v4, rfl, hv4, hb4⟩
    obtain ⟨ad4, cap4, rfl⟩ := hv4.form
    have HB4 := Hid.mk' (below_chain (below_chain HB1.out hb3) hb4)
    have hdi := HDI'.out w4 _ _ HB4.out (hv3.later hb4) hv4
    clear hv3 hv4 hb3 hb4 HDI'
    go_wp2_with fail
    refine hdi.mono ?_
    clear hdi
    rintro e w5 ⟨dn5, v5, rfl, hl5, hb5⟩
    obtain ⟨ad5, n5, cap5, rfl⟩ := hl5.form
    have HB5 := Hid.mk' (more_below (below_chain HB4.out hb5) (.cells #[.int .i64 dn5, .slice ad5 n5 cap5] 39))
    have hsg := HSG.out (w5.alloc (.cells #[.int .i64 dn5, .slice ad5 n5 cap5] 39)) dn5 _ _ HB5.out (hl5.later (new_below _ _))
    clear hl5 hb5 HSG
    go_wp2_with fail
    refine hsg.mono ?_
    clear hsg
    rintro e w6 ⟨rfl | rfl, hb6⟩
    · have HB6 := Hid.mk' (below_chain HB5.out hb6)
      clear hb6
      go_wp2_with fail
      refine (ints_any _ n p _ (HN.out _ HB6.out) (by omega)).mono ?_
      rintro e w7 ⟨v7, rfl, hv7, hb7⟩
      obtain ⟨ad7, cap7, rfl⟩ := hv7.form
      go_wp2_with fail
      refine (ints_any _ n q w7 (HK.out _ (below_chain HB6.out hb7)) (by omega)).mono ?_
      rintro e w8 ⟨v8, rfl, hv8, hb8⟩
      obtain ⟨ad8, cap8, rfl⟩ := hv8.form
      have HB8 := Hid.mk' (below_chain (below_chain HB6.out hb7) hb8)
      have hva := HVA.out w8 _ _ HB8.out (hv7.later hb8) hv8
      clear hv7 hv8 hb7 hb8 HVA
      go_wp2_with fail
      refine hva.mono ?_
      clear hva
      rintro e w9 ⟨rfl, hb9⟩
      have HB9 := Hid.mk' (more_below (below_chain HB8.out hb9) (.cells #[.int .i64 y, .int .i64 d] 45))
      clear hb9
      rcases HZ.out with ⟨rfl, rfl⟩ | ⟨rfl, hy⟩
      · go_wp2_with fail
        go_ret
        exact ⟨rfl, HB9.out⟩
      · have hyb : (y == 0) = false := by simpa using hy
        go_wp2_with fail
        go_ret
        exact ⟨rfl, HB9.out⟩
    · have HB6 := Hid.mk' (below_chain HB5.out hb6)
      clear hb6
      go_wp2_with fail
      refine (HCD.out w6 HB6.out).mono ?_
      rintro e w7 ⟨rfl, hb7⟩
      have HB7 := Hid.mk' (below_chain HB6.out hb7)
      clear hb7
      go_wp2_with fail
      go_ret
      exact ⟨rfl, HB7.out⟩

theorem DistGibbs_all (a : Nat → Addr) (ad : Option Addr) (n cap : Nat) (p : Nat → Int) (ad' : Option Addr) (m cap' : Nat) (q : Nat → Int) (w : World) (hE : Errs w a) (h : NumsAt w (.slice ad n cap) n p) (hm : n ≤ maxLen) (k : NumsAt w (.slice ad' m cap') m q) (hm' : m ≤ maxLen) :
    Calls Tryd.prog 4 #[.slice ad n cap, .slice ad' m cap'] w fun e w' => e = .returned (.bool true) ∧ Below w.heap.size w w' := by
  by_cases hn : n ≤ 16 ∧ m ≤ 16
  · by_cases h0 : twoErr p n q m = 0
    · obtain ⟨rfl, h16, hok1, hok2⟩ := twoErr_ok h0
      have hp := hok1.posN
      obtain ⟨P, hP⟩ := Int.eq_ofNat_of_zero_le (Int.le_of_lt hok1.pos)
      obtain ⟨Q, hQ⟩ := Int.eq_ofNat_of_zero_le (Int.le_of_lt hok2.pos)
      rcases h with ⟨_, _, _, h4⟩ | ⟨b, o, c1, hv, _, hr⟩
      · omega
      rcases k with ⟨_, _, _, h4⟩ | ⟨b', o', c2, hu, _, kr⟩
      · omega
      simp only [Value.slice.injEq, true_and] at hv hu
      obtain ⟨rfl, rfl⟩ := hv
      obtain ⟨rfl, rfl⟩ := hu
      exact DistGibbs_ok a b o n cap b' o' cap' P Q p q w hE hr kr h0 hP hQ
    · exact DistGibbs_bad a ad ad' n cap m cap' p q w hE h k hn.1 hn.2 h0
  · exact DistGibbs_long a ad ad' n cap m cap' w hE hn hm hm'
end Go.Proofs.YtgellgobgiolnaaDoor

/- What the rows' condition on package variables gives a walk: eight different sentinels with their texts, and the handle of the type error. -/
namespace Go.Proofs.YtgellgobgiolnaaDoor
open Go.ChangeShapes Go.WideShapes Go.RowKit

theorem Tryd.own : ownKnob Tryd.prog.godebug = none := by kernel_rfl
theorem Tryd.et : Tryd.prog.globalNamed "errors.errorType" = some 8 := by kernel_rfl
theorem Tryd.rt : (Tryd.prog.cutTypes.find? (·.1 == "internal/reflectlite.rtype")).map (·.2) = some 120 := by kernel_rfl
theorem Tryd.oneRow : ((List.range 188).filter fun t => Tryd.prog.rowNamed t [101, 114, 114, 111, 114]) = [28] := by kernel_rfl
theorem Tryd.size : Tryd.prog.types.size = 188 := by kernel_rfl
theorem Tryd.star : ("*" ++ "errors.errorString" : String) = "*errors.errorString" := by decide
theorem Tryd.rowE (u : TypeId) (h : Tryd.prog.typeName? 3 u = some "*errors.errorString") : u = 155 :=
  typeName_ptr_named (nm := "errors.errorString") (by rw [Tryd.star]; kernel_rfl) (by kernel_rfl) (by decide) u (by rw [Tryd.star]; exact h)
theorem Tryd.cellsE : Tryd.prog.cellsOf 176 = 1 := by kernel_rfl
theorem Tryd.cellsS : Tryd.prog.cellsOf 9 = 1 := by kernel_rfl
theorem Tryd.g0 : Tryd.prog.globalNamed "demon/api.ErrText" = some 3 := by kernel_rfl
theorem Tryd.g1 : Tryd.prog.globalNamed "demon/api.ErrBound" = some 0 := by kernel_rfl
theorem Tryd.g2 : Tryd.prog.globalNamed "demon/api.ErrShape" = some 1 := by kernel_rfl
theorem Tryd.g3 : Tryd.prog.globalNamed "demon/api.ErrZero" = some 2 := by kernel_rfl
theorem Tryd.g4 : Tryd.prog.globalNamed "demon/api.ErrName" = some 4 := by kernel_rfl
theorem Tryd.g5 : Tryd.prog.globalNamed "demon/api.ErrNone" = some 5 := by kernel_rfl
theorem Tryd.g6 : Tryd.prog.globalNamed "demon/api.ErrOrder" = some 6 := by kernel_rfl
theorem Tryd.g7 : Tryd.prog.globalNamed "demon/api.ErrKind" = some 7 := by kernel_rfl

/-- Any number of listed sentinels of one type: each one's pointer, text and row; no two are one. -/
theorem laid_list {P : Program} {W : World} {nm : String} {ti tp te ts : TypeId} {ms : Array (String × TypeId)} {f : Field}
    (hi : P.underlying ti = some (.interface ms)) (hrow : ∀ u, P.typeName? 3 u = some nm → u = tp)
    (hp : P.underlying tp = some (.pointer te)) (he : P.underlying te = some (.struct #[f])) (hft : f.type = ts) (hfo : f.offset = 0) (hs : P.underlying ts = some .string) (hc : P.cellsOf te = 1) (hcs : P.cellsOf ts = 1) :
    ∀ (L : List (String × List UInt8)) (ps : List MemPlace), (∀ x, x ∈ L → ∃ g, P.globalNamed x.1 = some g ∧ (P.globals[g]?).map (·.type) = some ti) →
      DataW.LaidVars P W (L.map fun x => (x.1, .iface nm (.ptr (.agg [.lit (.string x.2)])))) ps → ps.Nodup →
      (∀ b off, MemPlace.cell b off ∈ ps → (∃ c t, W.heap[b]? = some (.cells c t (0, 0))) ∧ ∀ u v, W.cell? ⟨b, off, none⟩ = some (.iface u v) → Value.okWide P W .any 0 u v) →
      ∃ a : Nat → Addr, (∀ i x, L[i]? = some x → W.var? P x.1 = some #[.iface tp (.pointer (some (a i)))] ∧ (∃ s, W.cell? (a i) = some (.string s) ∧ s.data.toList = x.2) ∧
          (∃ c t, W.heap[(a i).block]? = some (.cells c t (0, 0))) ∧ MemPlace.cell (a i).block (a i).off ∈ ps) ∧
        ∀ i j, i < L.length → j < L.length → i ≠ j → a i ≠ a j := by
  intro L
  induction L with
  | nil => intro ps _ _ _ _; exact ⟨fun _ => default, fun i x h => by simp at h, fun i j h => by simp at h⟩
  | cons x r ih =>
    intro ps hgs hv hnd hrows
    obtain ⟨n, text⟩ := x
    obtain ⟨g0, t0, cs0, f0, p0, q0, hg0, ht0, hv0, hd0, hvr, e0⟩ := hv
    obtain ⟨g, hg, ht⟩ := hgs (n, text) (List.mem_cons_self ..)
    obtain rfl := Option.some.inj (hg.symm.trans hg0)
    obtain rfl := Option.some.inj (ht.symm.trans ht0)
    subst e0
    obtain ⟨l0⟩ := cs0
    have ok0 : ∀ u v, l0 = [.iface u v] → Value.okWide P W .any 0 u v := fun u v e => by
      subst e
      exact (hrows g 0 (by simp [MemPlace.row])).2 u v (by simpa using World.var?_cell hg0 hv0 0)
    obtain ⟨a0, s0, rfl, hc0, hs0, hz0, rfl⟩ := errorString_of_trod hi hrow hp he hft hfo hs hc hcs hd0 ok0
    obtain ⟨c0, tt0, hb0⟩ := (hrows a0.block a0.off (by simp [MemPlace.row])).1
    have hnq : q0.Nodup := List.Nodup.sublist (List.sublist_append_right _ _) hnd
    obtain ⟨a', ha', hne'⟩ := ih q0 (fun x hx => hgs x (List.mem_cons_of_mem _ hx)) hvr hnq (fun b off hm => hrows b off (List.mem_append_right _ hm))
    have hnot : MemPlace.cell a0.block a0.off ∉ q0 := by
      intro hm
      have := (List.nodup_append.1 hnd).2.2
      exact this (.cell a0.block a0.off) (by simp [MemPlace.row]) (.cell a0.block a0.off) hm rfl
    refine ⟨fun i => match i with | 0 => a0 | k + 1 => a' k, ?_, ?_⟩
    · intro i x hx
      cases i with
      | zero =>
        simp only [List.getElem?_cons_zero, Option.some.injEq] at hx
        subst hx
        exact ⟨hv0, ⟨s0, hc0, hs0⟩, ⟨c0, tt0, hb0⟩, by simp [MemPlace.row]⟩
      | succ k =>
        simp only [List.getElem?_cons_succ] at hx
        obtain ⟨h1, h2, h3, h4⟩ := ha' k x hx
        exact ⟨h1, h2, h3, List.mem_append_right _ h4⟩
    · have far : ∀ k, k < r.length → a0 ≠ a' k := fun k hk e => by
        obtain ⟨_, _, _, h4⟩ := ha' k r[k] (by simp [hk])
        rw [← e] at h4
        exact hnot h4
      intro i j hi' hj' hij
      cases i with
      | zero =>
        cases j with
        | zero => exact absurd rfl hij
        | succ k => exact far k (by simpa using hj')
      | succ m =>
        cases j with
        | zero => exact (far m (by simpa using hi')).symm
        | succ k => exact hne' m k (by simpa using hi') (by simpa using hj') (by omega)

/-- The names and texts, in the rows' order. -/
def eightNames : List (String × List UInt8) := [("demon/api.ErrText", [100, 101, 109, 111, 110, 58, 32, 116, 101, 120, 116]), ("demon/api.ErrBound", [100, 101, 109, 111, 110, 58, 32, 98, 111, 117, 110, 100]), ("demon/api.ErrShape", [100, 101, 109, 111, 110, 58, 32, 115, 104, 97, 112, 101]), ("demon/api.ErrZero", [100, 101, 109, 111, 110, 58, 32, 122, 101, 114, 111]), ("demon/api.ErrName", [100, 101, 109, 111, 110, 58, 32, 110, 97, 109, 101]), ("demon/api.ErrNone", [100, 101, 109, 111, 110, 58, 32, 110, 111, 110, 101]), ("demon/api.ErrOrder", [100, 101, 109, 111, 110, 58, 32, 111, 114, 100, 101, 114]), ("demon/api.ErrKind", [100, 101, 109, 111, 110, 58, 32, 107, 105, 110, 100])]
def laidAll : List (String × DataW Unit) := [("errors.errorType", Rows.laid_errors_errorType), ("demon/api.ErrText", Rows.laid_demon_api_ErrText), ("demon/api.ErrBound", Rows.laid_demon_api_ErrBound), ("demon/api.ErrShape", Rows.laid_demon_api_ErrShape), ("demon/api.ErrZero", Rows.laid_demon_api_ErrZero), ("demon/api.ErrName", Rows.laid_demon_api_ErrName), ("demon/api.ErrNone", Rows.laid_demon_api_ErrNone), ("demon/api.ErrOrder", Rows.laid_demon_api_ErrOrder), ("demon/api.ErrKind", Rows.laid_demon_api_ErrKind)]
theorem laidAll_parts (W : World) : laidMetH Tryd.prog laidAll W = (laidMet Tryd.prog (eightNames.map fun x => (x.1, .iface "*errors.errorString" (.ptr (.agg [.lit (.string x.2)])))) W ∧ handlesMet Tryd.prog [("errors.errorType", Rows.laid_errors_errorType)] W) := by kernel_rfl

theorem var_at {W : World} {n : String} {g : Nat} {v : Value} (hg : Tryd.prog.globalNamed n = some g) (h : W.var? Tryd.prog n = some #[v]) : W.cell? ⟨g, 0, none⟩ = some v := by
  simpa using World.var?_cell hg h 0

theorem errs_of_laid {W : World} (h : laidMetH Tryd.prog laidAll W) : ∃ a : Nat → Addr, Errs W a ∧ ∀ i x, eightNames[i]? = some x → ∃ s, W.cell? (a i) = some (.string s) ∧ s.data.toList = x.2 := by
  rw [laidAll_parts] at h
  obtain ⟨⟨ps, hv, hnd, hrows⟩, hh⟩ := h
  obtain ⟨name, u, ty, e1, e2, e3, e4, e5⟩ := hh _ (List.mem_singleton.2 rfl)
  have en : name = [101, 114, 114, 111, 114] := (Option.some.inj e1).symm
  subst en
  obtain rfl := Option.some.inj (Tryd.rt.symm.trans e2)
  have hm : ty ∈ (List.range 188).filter fun t => Tryd.prog.rowNamed t [101, 114, 114, 111, 114] := List.mem_filter.2 ⟨List.mem_range.2 (by rw [← Tryd.size]; exact e3), e4⟩
  rw [Tryd.oneRow] at hm
  obtain rfl := List.mem_singleton.1 hm
  have hth : typeHandle Tryd.prog 28 = .pointer (some ⟨9, 28, none⟩) := by kernel_rfl
  rw [hth] at e5
  obtain ⟨a, ha, hne⟩ := laid_list Tryd.underlying28 Tryd.rowE Tryd.underlying155 Tryd.underlying176 rfl rfl Tryd.underlying9 Tryd.cellsE Tryd.cellsS eightNames ps
    (fun x hx => by
      simp only [eightNames, List.mem_cons, List.not_mem_nil, or_false] at hx
      rcases hx with rfl | rfl | rfl | rfl | rfl | rfl | rfl | rfl
      · exact ⟨_, Tryd.g0, by kernel_rfl⟩
      · exact ⟨_, Tryd.g1, by kernel_rfl⟩
      · exact ⟨_, Tryd.g2, by kernel_rfl⟩
      · exact ⟨_, Tryd.g3, by kernel_rfl⟩
      · exact ⟨_, Tryd.g4, by kernel_rfl⟩
      · exact ⟨_, Tryd.g5, by kernel_rfl⟩
      · exact ⟨_, Tryd.g6, by kernel_rfl⟩
      · exact ⟨_, Tryd.g7, by kernel_rfl⟩) hv hnd hrows
  refine ⟨a, ⟨var_at Tryd.g0 (ha 0 _ rfl).1, var_at Tryd.g1 (ha 1 _ rfl).1, var_at Tryd.g2 (ha 2 _ rfl).1, var_at Tryd.g3 (ha 3 _ rfl).1, var_at Tryd.g4 (ha 4 _ rfl).1, var_at Tryd.g5 (ha 5 _ rfl).1, var_at Tryd.g6 (ha 6 _ rfl).1, var_at Tryd.g7 (ha 7 _ rfl).1, var_at Tryd.et e5, ?_, ?_⟩, fun i x hx => (ha i x hx).2.1⟩
  · intro i hi
    have hl : eightNames.length = 8 := rfl
    exact (ha i eightNames[i] (List.getElem?_eq_getElem (by omega))).2.2.1
  · intro i j hi hj hij
    exact hne i j hi hj hij

/-- The door's own heap meets the condition. -/
theorem door_met (os : Os) (args : Array Value) : laidMetH Tryd.prog laidAll ((World.doorLaid Tryd.prog 168 os).forCall (fun _ _ => 0) ⟨#[], args, []⟩).memory :=
  laidMetH_of_parts3 (fuel := 8) (laidMet_of_run' 8 (by kernel_rfl) (by kernel_rfl)) (by kernel_rfl) (by kernel_rfl)
end Go.Proofs.YtgellgobgiolnaaDoor

/- A parameter of type []int opened. -/
namespace Go.Proofs.YtgellgobgiolnaaDoor
open Go.ChangeShapes Go.WideShapes Go.ChangeAt Go.RowKit Go.Joins Go.Deep

theorem Tryd.laidOut : laidOutB Tryd.prog = true := by kernel_rfl
theorem Tryd.cellsInt : Tryd.prog.cellsOf 3 = 1 := by kernel_rfl
theorem Tryd.cellsInts : Tryd.prog.cellsOf 22 = 1 := by kernel_rfl

set_option maxRecDepth 100000 in
/-- What a parameter of type []int gives: its slice, its numbers. -/
theorem open_nums {H : Type} {enc : TypeId × Value → H} {W : World} {base : Nat} {v : Value} {d : DataW H} {p : List MemPlace} (hv : Value.okWide Tryd.prog W .any base 22 v)
    (h : DataW.Trod enc Tryd.prog W 0 (fun _ => true) true 22 v d p) :
    ∃ (ad : Option Addr) (n cap : Nat) (z : Nat → Int), v = .slice ad n cap ∧ n ≤ maxLen ∧ NumsAt W (.slice ad n cap) n z := by
  obtain ⟨ad, n, cap, rfl⟩ := okWide_slice Tryd.underlying22 hv
  obtain ⟨fuel, hf⟩ := h
  rcases open_ints Tryd.underlying22 Tryd.underlying3 Tryd.cellsInt hf with ⟨hc, _⟩ | ⟨a, len, cap', zs, hc, _, hl, hm, hz, _, hcell, _⟩
  · simp [Value.cells] at hc
    obtain ⟨rfl, rfl, rfl⟩ := hc
    exact ⟨none, 0, 0, fun _ => 0, rfl, Nat.zero_le _, Or.inl ⟨none, 0, rfl, rfl⟩⟩
  · simp [Value.cells] at hc
    obtain ⟨rfl, rfl, rfl⟩ := hc
    simp only [if_true] at hz
    rcases Nat.eq_zero_or_pos n with rfl | hpos
    · exact ⟨some a, 0, cap, fun _ => 0, rfl, Nat.zero_le _, Or.inl ⟨some a, cap, rfl, rfl⟩⟩
    · obtain ⟨b, o, spot⟩ := a
      have hspot : spot = none := by simpa [Addr.add] using World.cell?_spot (hcell 0 (by omega))
      subst hspot
      refine ⟨_, n, cap, fun i => zs.getD i 0, rfl, by omega, Or.inr ⟨b, o, cap, rfl, hpos, fun i hi => ?_⟩⟩
      have := hcell i (by omega)
      rw [Go.Proofs.YtgellgobgiolnaaDoor.add_plain] at this
      exact this
end Go.Proofs.YtgellgobgiolnaaDoor
