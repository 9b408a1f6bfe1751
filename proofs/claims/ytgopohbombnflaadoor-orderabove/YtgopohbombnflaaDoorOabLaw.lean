/- The law OrderAbove. -/
import Derived.Test.YtgopohbombnflaaDoorOrIs
import Derived.Test.YtgopohbombnflaaDoorOrUn
import Derived.Test.YtgopohbombnflaaDoorCodedV
namespace Go.Proofs.YtgopohbombnflaaDoor
open Go.RowKit

set_option maxRecDepth 100000 in
set_option maxHeartbeats 4000000 in
theorem OrderAbove_all (a : Nat → Addr) (pv qv : Value) (n m : Nat) (p q : Nat → Int) (w : World) (hE : Errs w a) (hp : NumsAt w pv n p) (hq : NumsAt w qv m q) :
    Calls Tryd.prog 3 #[pv, qv] w fun e w' => e = .returned (.bool true) ∧ Below w.heap.size w w' := by
  have hU := unlike_any a w hE
  have HP := Hid.mk' (fun (W : World) (hb : Below w.heap.size w W) => hp.later hb)
  have HQ := Hid.mk' (fun (W : World) (hb : Below w.heap.size w W) => hq.later hb)
  have HE := Hid.mk' (fun (W : World) (hb : Below w.heap.size w W) => hE.below hb)
  obtain ⟨pad, pcap, rfl⟩ := hp.form
  obtain ⟨qad, qcap, rfl⟩ := hq.form
  clear hp hq hE
  by_cases hb : 200 < n ∨ 200 < m
  · have hd : (200 : Int) < (n : Int) ∨ (¬ (200 : Int) < (n : Int) ∧ (200 : Int) < (m : Int)) := by omega
    clear hb
    rcases hd with h1 | ⟨h1, h2⟩
    all_goals
      go_enter Tryd.func3, Tryd.ntmps3
      go_wp2_with fail
      refine hU.mono ?_
      rintro e w1 ⟨rfl, hb1⟩
      have HB1 := Hid.mk' hb1
      clear hb1 hU
      go_wp2_with fail
      go_ret
      exact ⟨rfl, HB1.out⟩
  · have h1 : ¬ (200 : Int) < (n : Int) := by omega
    have h2 : ¬ (200 : Int) < (m : Int) := by omega
    have HLE := Hid.mk' (fun (W : World) (hb : Below w.heap.size w W) => ListsError_any _ _ n m p q W (HP.out W hb) (HQ.out W hb) (by omega) (by omega))
    have HIP := Hid.mk' (fun (W : World) (hb : Below w.heap.size w W) => ints_any _ n p W (HP.out W hb) (by omega))
    have HIQ := Hid.mk' (fun (W : World) (hb : Below w.heap.size w W) => ints_any _ m q W (HQ.out W hb) (by omega))
    have HAB := Hid.mk' (fun (W : World) (x y : Value) (hb : Below w.heap.size w W) (hx : NumsAt W x n p) (hy : NumsAt W y m q) => Above_any a x y n m p q W (HE.out W hb) hx hy (by omega) (by omega))
    have HCD := Hid.mk' (fun (W : World) (hb : Below w.heap.size w W) => coded_errV a (prE n p m q) (prE_le n m p q) W (HE.out W hb))
    have HIS : Hid (prE n p m q = 0 → ∀ W, Below w.heap.size w W → Calls Tryd.prog 13 #[.slice pad n pcap, .slice qad m qcap] W fun e w' => e = .returned (.bool (!dipN (surF p q n) n)) ∧ Below W.heap.size W w') := fun h W hbW => by
      obtain ⟨h16, h0, e, hpr, hqr, _⟩ := prE_ok h
      subst e
      exact IsAbove_any _ _ n p q W (HP.out W hbW) (HQ.out W hbW) h0 h16 hpr hqr
    clear hb HP HQ HE
    go_enter Tryd.func3, Tryd.ntmps3
    go_wp2_with fail
    refine hU.mono ?_
    rintro e w1 ⟨rfl, hb1⟩
    have HB1 := Hid.mk' hb1
    clear hb1 hU
    go_wp2_with fail
    refine (HLE.out w1 HB1.out).mono ?_
    rintro e w1' ⟨rfl, hw1⟩
    rw [hw1]
    clear hw1
    go_wp2_with fail
    refine (HIP.out w1 HB1.out).mono ?_
    rintro e w2 ⟨v2, rfl, hn2, hb2⟩
    have HN2 := Hid.mk' hn2
    have HB2 := Hid.mk' (below_chain HB1.out hb2)
    clear hn2 hb2
    go_wp2_with fail
    refine (HIQ.out w2 HB2.out).mono ?_
    rintro e w3 ⟨v3, rfl, hn3, hb3⟩
    have HN3 := Hid.mk' hn3
    have HN2' := Hid.mk' (HN2.out.later hb3)
    have HB3 := Hid.mk' (below_chain HB2.out hb3)
    clear hn3 hb3
    go_wp2_with fail
    refine (HAB.out w3 v2 v3 HB3.out HN2'.out HN3.out).mono ?_
    rintro e w4 ⟨rfl, hb4⟩
    have HB4 := Hid.mk' (below_chain HB3.out hb4)
    clear hb4
    by_cases h0 : prE n p m q = 0
    · have HIS' := Hid.mk' (fun W hb => HIS.out h0 W hb)
      have hcd := HCD.out w4 HB4.out
      rw [h0] at hcd ⊢
      rw [show (decide (0 = 0) && !dipN (surF p q n) n) = !dipN (surF p q n) n from by simp]
      clear HIS HCD
      generalize (!dipN (surF p q n) n) = b at *
      have hbb : (b == b) = true := by simp
      generalize errV a 0 = er at *
      go_wp2_with fail
      refine hcd.mono ?_
      clear hcd
      rintro e w5 ⟨rfl, hb5⟩
      have HB5 := Hid.mk' (below_chain HB4.out hb5)
      clear hb5
      go_wp2_with fail
      refine (HIS'.out w5 HB5.out).mono ?_
      rintro e w6 ⟨rfl, hb6⟩
      have HB6 := Hid.mk' (below_chain HB5.out hb6)
      clear hb6
      go_wp2_with fail
      go_ret
      exact ⟨rfl, HB6.out⟩
    · have hk : ((prE n p m q : Int) == 0) = false := by simp; exact h0
      have hcd := HCD.out w4 HB4.out
      rw [show (decide (prE n p m q = 0) && !dipN (surF p q n) n) = false from by simp [h0]]
      clear HIS HCD
      generalize prE n p m q = c at *
      generalize errV a c = er at *
      go_wp2_with fail
      refine hcd.mono ?_
      clear hcd
      rintro e w5 ⟨rfl, hb5⟩
      have HB5 := Hid.mk' (below_chain HB4.out hb5)
      clear hb5
      go_wp2_with fail
      go_ret
      exact ⟨rfl, HB5.out⟩
theorem OrderAbove_main (a : Nat → Addr) (ad : Option Addr) (n cap : Nat) (z : Nat → Int) (ad1 : Option Addr) (n1 cap1 : Nat) (z1 : Nat → Int) (w : World) (hE : Errs w a) (h : NumsAt w (.slice ad n cap) n z) (_ : n ≤ maxLen) (h1 : NumsAt w (.slice ad1 n1 cap1) n1 z1) (_ : n1 ≤ maxLen) :
    Calls Tryd.prog 3 #[.slice ad n cap, .slice ad1 n1 cap1] w fun e w' => e = .returned (.bool true) ∧ Below w.heap.size w w' :=
  OrderAbove_all a _ _ n n1 z z1 w hE h h1
end Go.Proofs.YtgopohbombnflaaDoor
