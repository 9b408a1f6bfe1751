/- The law PrefixSearch. -/
import Derived.Test.YtcigmihfannmjabDoorSearchP
import Derived.Test.YtcigmihfannmjabDoorSearchR
import Derived.Test.YtcigmihfannmjabDoorSearchD
import Derived.Test.YtcigmihfannmjabDoorHalves
import Derived.Test.YtcigmihfannmjabDoorCopy
import Derived.Test.YtcigmihfannmjabDoorCodedV
namespace Go.Proofs.YtcigmihfannmjabDoor
open Go.RowKit

/-- A slice with room for what it holds. -/
def Room (v : Value) (n : Nat) : Prop := ∃ ad cap, v = .slice ad n cap ∧ n ≤ cap
theorem ints_room (v : Value) (n : Nat) (z : Nat → Int) (w : World) (h : NumsAt w v n z) (hn : n ≤ 400) :
    Calls Tryd.prog 12 #[v] w fun e w' => ∃ v', e = .returned v' ∧ NumsAt w' v' n z ∧ Room v' n ∧ Below w.heap.size w w' := by
  refine (ints_row v n z w h hn).mono ?_
  rintro e w' ⟨v', rfl, h1, h2⟩
  refine ⟨v', rfl, numsAt_own h1, ?_, h2⟩
  rcases h1.2 with ⟨hv, h0⟩ | ⟨g, cap, cur, hv, _, _, hc, _⟩
  · exact ⟨none, 0, by rw [hv, h0], by omega⟩
  · exact ⟨_, cap, hv, hc⟩
def clip (n : Nat) (z : Nat → Int) (i : Nat) : Int := if i < n then z i else 0
theorem clip_in {n : Nat} {z : Nat → Int} {i : Nat} (h : i < n) : clip n z i = z i := if_pos h
theorem clip_bound {n : Nat} {z : Nat → Int} (h : ∀ i, i < n → 0 ≤ z i ∧ z i ≤ 4096) (i : Nat) : 0 ≤ clip n z i ∧ clip n z i ≤ 4096 := by
  unfold clip
  split
  · rename_i hi; exact h i hi
  · omega
theorem rowAt_of {w : World} {v : Value} {n : Nat} {z : Nat → Int} (h : NumsAt w v n z) (hr : Room v n) (h0 : 0 < n) : ∃ b o cap, v = .slice (some ⟨b, o, none⟩) n cap ∧ n ≤ cap ∧ RowAt w b o n z := by
  obtain ⟨ad, cap, hv, hc⟩ := hr
  rcases h with ⟨ad', cap', hv', hn⟩ | ⟨b, o, cap', hv', _, hrow⟩
  · omega
  · rw [hv] at hv'
    obtain ⟨e1, -, e2⟩ : ad = some ⟨b, o, none⟩ ∧ n = n ∧ cap = cap' := by simpa using hv'
    exact ⟨b, o, cap, by rw [hv, e1], hc, hrow⟩
theorem Search_good (a : Nat → Addr) (v u : Value) (n : Nat) (ks gs : Nat → Int) (w : World) (hE : Errs w a) (h : NumsAt w v n ks) (k : NumsAt w u (n + 1) gs) (hv : Room v n) (hu : Room u (n + 1)) (hc : seErr n (n + 1) ks gs = 0) :
    Calls Tryd.prog 18 #[v, u] w fun e w' => e = .returned (.tuple #[.int .i64 (cst (clip n ks) (clip (n + 1) gs) 0 n), .int .i64 (rootOf (clip n ks) (clip (n + 1) gs) 0 (n - 1) : Nat), .nilIface]) ∧ Below w.heap.size w w' := by
  obtain ⟨h0, h16, -, hk, hg⟩ := seErr_ok hc
  have hch := checkSearch_any a v u n (n + 1) ks gs w hE h k (by omega) (by omega)
  rw [hc, errV_zero] at hch
  obtain ⟨b, o, cap, rfl, hcap, hr⟩ := rowAt_of (h.congr (z' := clip n ks) (fun i hi => (clip_in hi).symm)) hv h0
  obtain ⟨b', o', cap', rfl, hcap', hr'⟩ := rowAt_of (k.congr (z' := clip (n + 1) gs) (fun i hi => (clip_in hi).symm)) hu (by omega)
  exact Search_ok b o cap b' o' cap' n _ _ w hr hr' (clip_bound hk) (clip_bound hg) h0 h16 hcap hcap' hch
set_option maxRecDepth 100000 in
theorem Search_bad (a : Nat → Addr) (v u : Value) (n m : Nat) (ks gs : Nat → Int) (w : World) (hE : Errs w a) (h : NumsAt w v n ks) (k : NumsAt w u m gs) (hn : n ≤ 1000) (hm : m ≤ 1000) (hc : seErr n m ks gs ≠ 0) :
    Calls Tryd.prog 18 #[v, u] w fun e w' => e = .returned (.tuple #[.int .i64 0, .int .i64 0, errV a (seErr n m ks gs)]) ∧ Below w.heap.size w w' := by
  have hch := checkSearch_any a v u n m ks gs w hE h k (by omega) (by omega)
  rw [errV_pos a hc] at hch ⊢
  generalize a (seErr n m ks gs - 1) = p at hch ⊢
  clear h k hE hc
  go_enter Tryd.func18, Tryd.ntmps18
  go_wp2_with (first
    | (go_at_call 36; refine hch.mono ?_; rintro e w1 ⟨rfl, hw1⟩; rw [hw1]; clear hw1))
  go_ret3
  exact ⟨rfl, Below.refl _ _⟩
set_option maxRecDepth 100000 in
set_option maxHeartbeats 4000000 in
theorem PrefixSearch_all (a : Nat → Addr) (ad : Option Addr) (n cap : Nat) (ks : Nat → Int) (ad' : Option Addr) (m cap' : Nat) (gs : Nat → Int) (w : World) (hE : Errs w a) (hd : w.cell? ⟨14, 1, none⟩ = some (.int .u8 1)) (h : NumsAt w (.slice ad n cap) n ks) (hm : n ≤ maxLen) (k : NumsAt w (.slice ad' m cap') m gs) (hm' : m ≤ maxLen) :
    Calls Tryd.prog 5 #[.slice ad n cap, .slice ad' m cap'] w fun e w' => e = .returned (.bool true) ∧ Below w.heap.size w w' := by
  have hH := halves_any a w hE hd
  unfold maxLen at hm hm'
  by_cases h4 : n ≤ 100 ∧ m ≤ 100
  · obtain ⟨h4, h5⟩ := h4
    have HIN : Hid (∀ W, Below w.heap.size w W → Calls Tryd.prog 12 #[.slice ad n cap] W fun e w' => ∃ v', e = .returned v' ∧ NumsAt w' v' n ks ∧ Room v' n ∧ Below W.heap.size W w') := fun W hb => ints_room _ n ks W (h.later hb) (by omega)
    have HIG : Hid (∀ W, Below w.heap.size w W → Calls Tryd.prog 12 #[.slice ad' m cap'] W fun e w' => ∃ v', e = .returned v' ∧ NumsAt w' v' m gs ∧ Room v' m ∧ Below W.heap.size W w') := fun W hb => ints_room _ m gs W (k.later hb) (by omega)
    have HSE : Hid (∀ W, Below w.heap.size w W → Calls Tryd.prog 17 #[.slice ad n cap, .slice ad' m cap'] W fun e w' => e = .returned (.int .i64 (seErr n m ks gs : Nat)) ∧ w' = W) := fun W hb => SearchError_any _ _ n m ks gs W (h.later hb) (k.later hb) (by omega) (by omega)
    have hnI : (n : Int) ≤ 100 := by omega
    have hmI : (m : Int) ≤ 100 := by omega
    have hle := seErr_le n m ks gs
    by_cases hc : seErr n m ks gs = 0
    · obtain ⟨h0, h16, rfl, hk, hg⟩ := seErr_ok hc
      have HK : Hid (∀ (W : World) (v u : Value), Below w.heap.size w W → NumsAt W v n ks → Room v n → NumsAt W u (n + 1) gs → Room u (n + 1) → Calls Tryd.prog 18 #[v, u] W fun e w' => e = .returned (.tuple #[.int .i64 (cst (clip n ks) (clip (n + 1) gs) 0 n), .int .i64 (rootOf (clip n ks) (clip (n + 1) gs) 0 (n - 1) : Nat), .nilIface]) ∧ Below W.heap.size W w') := fun W v u hb hv rv hu ru => Search_good a v u n ks gs W (hE.below hb) hv hu rv ru hc
      have HSO : Hid (n ≤ 8 → ∀ W, Below w.heap.size w W → Calls Tryd.prog 19 #[.slice ad n cap, .slice ad' (n + 1) cap', .int .i64 0, .int .i64 n, .int .i64 0] W fun e w' => e = .returned (.tuple #[.int .i64 (cst (clip n ks) (clip (n + 1) gs) 0 n), .int .i64 (rootOf (clip n ks) (clip (n + 1) gs) 0 (n - 1) : Nat)]) ∧ w' = W) := fun h8 W hb => by
        have h1 : NumsAt W (.slice ad n cap) n (clip n ks) := (h.later hb).congr (fun i hi => (clip_in hi).symm)
        have k1 : NumsAt W (.slice ad' (n + 1) cap') (n + 1) (clip (n + 1) gs) := (k.later hb).congr (fun i hi => (clip_in hi).symm)
        rcases h1 with ⟨_, _, hv', hn⟩ | ⟨b, o, c1, hv, _, hr⟩
        · omega
        · rcases k1 with ⟨_, _, hv', hn⟩ | ⟨b', o', c1', hv', _, hr'⟩
          · omega
          · rw [hv, hv']
            have := SearchOf_any b o c1 b' o' c1' n _ _ W hr hr' (clip_bound hk) (clip_bound hg) h16 n 0 n 0 (Nat.le_refl _) (by omega) (by omega)
            have e1 : deepC (clip n ks) (clip (n + 1) gs) 0 n 0 = cst (clip n ks) (clip (n + 1) gs) 0 n := by unfold deepC; simp
            have e2 : rootV (clip n ks) (clip (n + 1) gs) 0 n = ((rootOf (clip n ks) (clip (n + 1) gs) 0 (n - 1) : Nat) : Int) := by
              obtain ⟨q, rfl⟩ : ∃ q, n = q + 1 := ⟨n - 1, by omega⟩
              simp [rootV]
            rw [e1, e2, Nat.zero_add] at this
            exact this
      have hro : rootOf (clip n ks) (clip (n + 1) gs) 0 (n - 1) ≤ n - 1 := argLeast_le _ _
      have hroI : ((rootOf (clip n ks) (clip (n + 1) gs) 0 (n - 1) : Nat) : Int) < (n : Int) := by omega
      have hro0 : (0 : Int) ≤ ((rootOf (clip n ks) (clip (n + 1) gs) 0 (n - 1) : Nat) : Int) := by omega
      rw [hc] at HSE
      clear hE hd h k hk hg hc hro
      generalize rootOf (clip n ks) (clip (n + 1) gs) 0 (n - 1) = R at *
      generalize cst (clip n ks) (clip (n + 1) gs) 0 n = C at *
      by_cases h8 : n ≤ 8
      · have HSO := Hid.mk' (HSO.out h8)
        have h8I : ¬ ((8 : Int) < (n : Int)) := by omega
        go_enter Tryd.func5, Tryd.ntmps5
        go_wp2_with (first
          | (go_at_call 8; refine hH.mono ?_; rintro e w1 ⟨rfl, hb1⟩; have HB1 := Hid.mk' hb1; clear hb1)
          | (go_at_call 17; refine (HSE.out w1 HB1.out).mono ?_; rintro e w2 ⟨rfl, hw2⟩; rw [hw2]; clear hw2)
          | (go_at_call_of 12 cap; refine (HIN.out w1 HB1.out).mono ?_; rintro e w3 ⟨v3, rfl, hv3, hr3, hb3⟩; have HB3 := Hid.mk' (below_chain HB1.out hb3); have HV3 := Hid.mk' hv3; have HR3 := Hid.mk' hr3; clear hb3 hv3 hr3)
          | (go_at_call_of 12 cap'; refine (HIG.out w3 HB3.out).mono ?_; rintro e w4 ⟨v4, rfl, hv4, hr4, hb4⟩; have HB4 := Hid.mk' (below_chain HB3.out hb4); have HV34 := Hid.mk' (HV3.out.later hb4); have HV4 := Hid.mk' hv4; have HR4 := Hid.mk' hr4; clear hb4 hv4 hr4)
          | (go_at_call 18; refine (HK.out w4 _ _ HB4.out HV34.out HR3.out HV4.out HR4.out).mono ?_; rintro e w5 ⟨rfl, hb5⟩; have HB5 := Hid.mk' (below_chain HB4.out hb5); clear hb5)
          | (go_at_call 19; refine (HSO.out w5 HB5.out).mono ?_; rintro e w6 ⟨rfl, hw6⟩; rw [hw6]; clear hw6))
        go_ret
        exact ⟨by simp, HB5.out⟩
      · have h8I : (8 : Int) < (n : Int) := by omega
        clear HSO
        go_enter Tryd.func5, Tryd.ntmps5
        go_wp2_with (first
          | (go_at_call 8; refine hH.mono ?_; rintro e w1 ⟨rfl, hb1⟩; have HB1 := Hid.mk' hb1; clear hb1)
          | (go_at_call 17; refine (HSE.out w1 HB1.out).mono ?_; rintro e w2 ⟨rfl, hw2⟩; rw [hw2]; clear hw2)
          | (go_at_call_of 12 cap; refine (HIN.out w1 HB1.out).mono ?_; rintro e w3 ⟨v3, rfl, hv3, hr3, hb3⟩; have HB3 := Hid.mk' (below_chain HB1.out hb3); have HV3 := Hid.mk' hv3; have HR3 := Hid.mk' hr3; clear hb3 hv3 hr3)
          | (go_at_call_of 12 cap'; refine (HIG.out w3 HB3.out).mono ?_; rintro e w4 ⟨v4, rfl, hv4, hr4, hb4⟩; have HB4 := Hid.mk' (below_chain HB3.out hb4); have HV34 := Hid.mk' (HV3.out.later hb4); have HV4 := Hid.mk' hv4; have HR4 := Hid.mk' hr4; clear hb4 hv4 hr4)
          | (go_at_call 18; refine (HK.out w4 _ _ HB4.out HV34.out HR3.out HV4.out HR4.out).mono ?_; rintro e w5 ⟨rfl, hb5⟩; have HB5 := Hid.mk' (below_chain HB4.out hb5); clear hb5))
        go_ret
        exact ⟨by simp, HB5.out⟩
    · have HK : Hid (∀ (W : World) (v u : Value), Below w.heap.size w W → NumsAt W v n ks → NumsAt W u m gs → Calls Tryd.prog 18 #[v, u] W fun e w' => e = .returned (.tuple #[.int .i64 0, .int .i64 0, errV a (seErr n m ks gs)]) ∧ Below W.heap.size W w') := fun W v u hb hv hu => Search_bad a v u n m ks gs W (hE.below hb) hv hu (by omega) (by omega) hc
      have HCD : Hid (∀ W, Below w.heap.size w W → Calls Tryd.prog 13 #[errV a (seErr n m ks gs), .int .i64 (seErr n m ks gs : Int)] W fun e w' => e = .returned (.bool true) ∧ Below W.heap.size W w') := fun W hb => coded_errV a _ hle W (hE.below hb)
      generalize seErr n m ks gs = c at *
      generalize errV a c = ec at *
      have hcI : (0 : Int) < (c : Int) := by omega
      clear hE hd h k
      go_enter Tryd.func5, Tryd.ntmps5
      go_wp2_with (first
        | (go_at_call 8; refine hH.mono ?_; rintro e w1 ⟨rfl, hb1⟩; have HB1 := Hid.mk' hb1; clear hb1)
        | (go_at_call 17; refine (HSE.out w1 HB1.out).mono ?_; rintro e w2 ⟨rfl, hw2⟩; rw [hw2]; clear hw2)
        | (go_at_call_of 12 cap; refine (HIN.out w1 HB1.out).mono ?_; rintro e w3 ⟨v3, rfl, hv3, hr3, hb3⟩; have HB3 := Hid.mk' (below_chain HB1.out hb3); have HV3 := Hid.mk' hv3; clear hb3 hv3 hr3)
        | (go_at_call_of 12 cap'; refine (HIG.out w3 HB3.out).mono ?_; rintro e w4 ⟨v4, rfl, hv4, hr4, hb4⟩; have HB4 := Hid.mk' (below_chain HB3.out hb4); have HV34 := Hid.mk' (HV3.out.later hb4); have HV4 := Hid.mk' hv4; clear hb4 hv4 hr4)
        | (go_at_call 18; refine (HK.out w4 _ _ HB4.out HV34.out HV4.out).mono ?_; rintro e w5 ⟨rfl, hb5⟩; have HB5 := Hid.mk' (below_chain HB4.out hb5); clear hb5)
        | (go_at_call 13; refine (HCD.out w5 HB5.out).mono ?_; rintro e w6 ⟨rfl, hb6⟩; have HB6 := Hid.mk' (below_chain HB5.out hb6); clear hb6))
      go_ret
      exact ⟨rfl, HB6.out⟩
  · clear hE h hd k
    rcases Nat.lt_or_ge 100 n with h6 | h6
    · have hnI : (100 : Int) < (n : Int) := by omega
      go_enter Tryd.func5, Tryd.ntmps5
      go_wp2_with (first
        | (go_at_call 8; refine hH.mono ?_; rintro e w1 ⟨rfl, hb1⟩; have HB1 := Hid.mk' hb1; clear hb1))
      go_ret
      exact ⟨rfl, HB1.out⟩
    · have hnI : ¬ ((100 : Int) < (n : Int)) := by omega
      have hmI : (100 : Int) < (m : Int) := by omega
      go_enter Tryd.func5, Tryd.ntmps5
      go_wp2_with (first
        | (go_at_call 8; refine hH.mono ?_; rintro e w1 ⟨rfl, hb1⟩; have HB1 := Hid.mk' hb1; clear hb1))
      go_ret
      exact ⟨rfl, HB1.out⟩
end Go.Proofs.YtcigmihfannmjabDoor
