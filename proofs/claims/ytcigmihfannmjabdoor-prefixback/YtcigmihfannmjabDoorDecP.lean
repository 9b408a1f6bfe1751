/- prefix.first and prefix.Decode. -/
import Derived.Test.YtcigmihfannmjabDoorDecMath
import Derived.Test.YtcigmihfannmjabDoorCopy
import Derived.Deep.LoopGhost
namespace Go.Proofs.YtcigmihfannmjabDoor
open Go.RowKit

theorem ret_int4 {a b : Int} (h : b = a) : Ending.returned (.int .i64 a) = .returned (.int .i64 b) := by rw [h]
/-- The number that first gives. -/
def fstV (K n : Nat) : Int := if K < n then (K : Int) else -1
set_option maxRecDepth 100000 in
set_option maxHeartbeats 1000000 in
theorem first_any (ad : Option Addr) (cap n : Nat) (f : Nat → ByteArray) (t : ByteArray) (w : World) (hn : n ≤ 1000000) (h : TxtAt w ad n f) :
    Calls Tryd.prog 45 #[.slice ad n cap, .string t] w fun e w' => e = .returned (.int .i64 (fstV (fstN f t n) n)) ∧ w' = w := by
  have HR := Hid.mk' h
  have HKL := Hid.mk' (fstN_le f t n)
  have HKN : Hid (∀ i, i < fstN f t n → begB (f i) t = false) := fun i hi => fstN_no hi
  have HKH : Hid (fstN f t n < n → begB (f (fstN f t n)) t = true) := fun hh => fstN_hit hh
  clear h
  generalize fstN f t n = K at *
  go_enter Tryd.func45, Tryd.ntmps45
  go_wp2_with fail
  go_loopw [9] (fun tt wr => ∃ k : Nat, k ≤ K ∧ tt = .int .i64 k ∧ wr = w) (fun tt _ => n - (intOf tt).toNat)
  case atStart => exact ⟨0, Nat.zero_le _, rfl, rfl⟩
  case round =>
    obtain ⟨k, hk, rfl, hwr⟩ := hrel
    rw [hwr]
    clear hwr
    have hk0 : (0 : Int) ≤ (k : Int) := by omega
    rcases Nat.lt_or_ge k n with h1 | h1
    · have hkI : (k : Int) < (n : Int) := by omega
      obtain ⟨b, o, rfl, y0⟩ := HR.out k h1
      have hbg := HasPrefix_any t (f k) w
      rcases Nat.lt_or_ge k K with h2 | h2
      · rw [HKN.out k h2] at hbg
        generalize f k = x at *
        go_wp2_with (first | (go_at_call 64; refine hbg.mono ?_; rintro e w1 ⟨rfl, hw1⟩; rw [hw1]; clear hw1))
        exact ⟨⟨k + 1, h2, by go_num, trivial⟩, by simp [intOf]; omega⟩
      · obtain rfl : K = k := by omega
        rw [HKH.out h1] at hbg
        have HV : Hid (fstV K n = (K : Int)) := if_pos h1
        generalize f K = x at *
        go_wp2_with (first | (go_at_call 64; refine hbg.mono ?_; rintro e w1 ⟨rfl, hw1⟩; rw [hw1]; clear hw1))
        go_ret
        exact ⟨ret_int4 HV.out, rfl⟩
    · have hkn : k = n := by have := HKL.out; omega
      have HV : Hid (fstV K n = -1) := if_neg (by have := HKL.out; omega)
      have hkI : ¬ ((k : Int) < (n : Int)) := by omega
      clear hkn
      go_wp2_with fail
      go_ret
      exact ⟨ret_int4 HV.out, rfl⟩
/-- What Decode gives of words that are well. -/
def decOut (ok : Bool) : Nat := if ok = true then 0 else 1
def lenOut (ok : Bool) (J : Nat) : Nat := if ok = true then J else 0
set_option maxRecDepth 100000 in
set_option maxHeartbeats 4000000 in
theorem Decode_read (a : Nat → Addr) (ad : Option Addr) (cap n : Nat) (f : Nat → ByteArray) (T : ByteArray) (J : Nat) (ok : Bool) (w : World) (hE : Errs w a) (h : TxtAt w ad n f) (hc : wdErr n f = 0) (hap : apB f n = true) (hT : T.size ≤ 4000) (hJ : EndsD f T n J ok) :
    Calls Tryd.prog 21 #[.slice ad n cap, .string T] w fun e w' => ∃ v, e = .returned (.tuple #[v, errV a (decOut ok)]) ∧ NumsAt w' v (lenOut ok J) (fun j => (idxD f T n j : Int)) ∧ Below w.heap.size w w' := by
  obtain ⟨hn0, hn16, hwd⟩ := wdErr_ok hc
  have hf : ∀ i, i < n → (f i).toList.isEmpty = false := fun i hi => (hwd i hi).2.2
  have hV := Valid_any a ad cap n f w hE h (by omega)
  rw [hc, errV_zero] at hV
  have HA := Hid.mk' (fun (W : World) (hb : Below w.heap.size w W) => apart_any ad cap n f W (by omega) (h.later hb))
  rw [hap] at HA
  have HTX := Hid.mk' (fun (W : World) (hb : Below w.heap.size w W) => h.later hb)
  have HFI := Hid.mk' (fun (W : World) (t : ByteArray) (hb : Below w.heap.size w W) => first_any ad cap n f t W (by omega) (h.later hb))
  have HJ := Hid.mk' hJ
  have HJT := Hid.mk' (ends_short hf hJ)
  have HPL : Hid (∀ j, j ≤ J → posD f T n j ≤ T.size) := fun j hj => pos_le j (fun i hi => (hJ.on i (by omega)).2)
  have hTI : (T.size : Int) ≤ 4000 := by omega
  obtain ⟨i0, hii, hz0, hz1, hz2⟩ := info_parts Tryd.infoInt
  have HINF : Hid (Tryd.prog.info? 3 = some i0 ∧ i0.zero = some (.int .i64 0) ∧ i0.size = 1 ∧ i0.bytes = 8) := ⟨hii, hz0, hz1, hz2⟩
  have hS0 := sfx_zero T
  have HE := Hid.mk' (fun (W : World) (hb : Below w.heap.size w W) => hE.below hb)
  clear hii hz0 hz1 hz2 hE h hc hap hJ hwd hf
  go_enter Tryd.func21, Tryd.ntmps21
  go_wp2_with (first
    | (go_at_call 43; refine hV.mono ?_; rintro e w1 ⟨rfl, hb1⟩; have HB1 := Hid.mk' hb1; clear hb1)
    | (go_at_call 44; refine (HA.out _ HB1.out).mono ?_; rintro e w2 ⟨rfl, hw2⟩; rw [hw2]; clear hw2))
  go_loopg [1, 7] J (fun gk tx ou wr => ∃ j : Nat, gk + j = J ∧ tx = .string (sfx T (posD f T n j)) ∧ Hid (wr.ownsRow w1.heap.size 3 1 ou j (numCells (fun j => (idxD f T n j : Int)) j)) ∧ Hid (Below w1.heap.size w1 wr))
  case atStart => exact ⟨0, by omega, by rw [posD, hS0], ⟨rfl, Or.inl ⟨rfl, rfl⟩⟩, Below.refl _ _⟩
  case round =>
    clear hS0
    obtain ⟨j, hj, rfl, HO, HB⟩ := hrel
    rcases Nat.lt_or_ge j J with h1 | h1
    · obtain ⟨hp, hi⟩ := HJ.out.on j h1
      have hne := sfx_some hp
      have hfi := HFI.out wr (sfx T (posD f T n j)) (below_chain HB1.out HB.out)
      have HSX := Hid.mk' (sfx_sfx T (posD f T n j) (f (idxD f T n j)).size)
      have hss : ((f (idxD f T n j)).size : Int) ≤ ((sfx T (posD f T n j)).size : Int) := by
        have := HPL.out (j + 1) h1
        rw [posD_succ] at this
        rw [sfx_size]; omega
      have HVV : Hid (fstV (fstN f (sfx T (posD f T n j)) n) n = (idxD f T n j : Int)) := if_pos hi
      rw [HVV.out] at hfi
      have hTT := HTX.out wr (below_chain HB1.out HB.out)
      obtain ⟨b, o, rfl, y0⟩ := hTT _ hi
      have hiI : (idxD f T n j : Int) < (n : Int) := by omega
      have hi0 : (0 : Int) ≤ (idxD f T n j : Int) := by omega
      have HY : Hid (∀ W, Below w1.heap.size w1 W → W.cell? ⟨b, o + idxD f T n j, none⟩ = some (.string (f (idxD f T n j)))) := fun W hb => by
        obtain ⟨b', o', hbo', y1⟩ := HTX.out W (below_chain HB1.out hb) _ hi
        simp only [Option.some.injEq, Addr.mk.injEq, and_true] at hbo'
        obtain ⟨rfl, rfl⟩ := hbo'
        exact y1
      have hzB := HB.out.size
      have HJJ : Hid (j ≤ 4000) := by have := HJT.out; show _ ≤ _; omega
      have hj4 := HJJ.out
      clear hTT HVV hp hi
      generalize hxx : sfx T (posD f T n j) = tx at *
      generalize hyy : f (idxD f T n j) = wd at *
      have HNX : Hid (tx.extract wd.size tx.size = sfx T (posD f T n (j + 1))) := by
        show _ = _
        rw [HSX.out, posD_succ, hyy]
      clear HSX hxx hyy
      obtain ⟨K, hK⟩ : ∃ K, K = idxD f T n j := ⟨_, rfl⟩
      rw [← hK] at hfi hiI hi0 y0 HY
      have HKE := Hid.mk' hK
      clear hK
      obtain ⟨ou, hou⟩ : ∃ ou, ou = u7 := ⟨_, rfl⟩
      rw [← hou] at HO ⊢
      clear hou
      go_wp2_with fail
      refine hfi.mono ?_
      rintro e w5 ⟨rfl, hw5⟩
      rw [hw5]
      clear hw5 hfi
      go_wp2_with (at_builtin; go_must (refine wpList_append_lies _ rfl _ _ _ rfl w1.heap.size 3 i0 _ 1 8 Tryd.underlying22 HINF.out.1 HINF.out.2.1 HINF.out.2.2.1 HINF.out.2.2.2 rfl (by omega) ou _ _ rfl (HO.out.alloc _) ⟨wr.heap.size, 0, none⟩ 1 1 [.int .i64 (K : Int)] rfl rfl (one_new _ _ _) (by simp [Value.oneCell']) (by omega) (by unfold maxLen; omega) (by omega) (by simp; omega) _ rfl ?_; intro g' cap2 w3 hown3 hgrow3 hat3 hlt3; have HO3 := Hid.mk' hown3; have HG3 := Hid.mk' hgrow3; have y3 := HY.out _ (below_push HB.out HO.out hgrow3); clear hown3 hgrow3 hat3))
      go_roundg (J - (j + 1))
      case measure => omega
      case rel =>
        refine ⟨j + 1, by omega, by rw [HNX.out], ?_, below_push HB.out HO.out HG3.out⟩
        have := HO3.out
        rw [HKE.out] at this
        exact this
    · obtain rfl : J = j := by omega
      cases ok with
      | true =>
        have hne := sfx_none (HJ.out.yes rfl)
        generalize sfx T (posD f T n J) = tx at *
        clear HFI
        go_wp2_with fail
        go_ret2
        exact ⟨_, rfl, numsAt_own HO.out, below_chain HB1.out HB.out⟩
      | false =>
        obtain ⟨hp, hi⟩ := HJ.out.no rfl
        have hne := sfx_some hp
        have hfi := HFI.out wr (sfx T (posD f T n J)) (below_chain HB1.out HB.out)
        have HVV : Hid (fstV (fstN f (sfx T (posD f T n J)) n) n = -1) := if_neg (by show ¬ (idxD f T n J < n); omega)
        rw [HVV.out] at hfi
        have c0 := (HE.out _ (below_chain HB1.out HB.out)).c0
        clear HVV hp hi
        generalize sfx T (posD f T n J) = tx at *
        go_wp2_with (first
          | (go_at_call 45; refine hfi.mono ?_; rintro e w5 ⟨rfl, hw5⟩; rw [hw5]; clear hw5)
          | go_quiet (fail))
        go_ret2
        exact ⟨_, rfl, Or.inl ⟨_, _, rfl, rfl⟩, below_drewN (below_chain HB1.out HB.out) _⟩
theorem errV_eight (a : Nat → Addr) : errV a 8 = .iface 174 (.pointer (some (a 7))) := rfl
set_option maxRecDepth 100000 in
theorem Decode_words (a : Nat → Addr) (ad : Option Addr) (cap n : Nat) (f : Nat → ByteArray) (T : ByteArray) (w : World) (hE : Errs w a) (h : TxtAt w ad n f) (hn : n ≤ 1000000) (hc : wdErr n f ≠ 0) :
    Calls Tryd.prog 21 #[.slice ad n cap, .string T] w fun e w' => e = .returned (.tuple #[.slice none 0 0, errV a (wdErr n f)]) ∧ Below w.heap.size w w' := by
  have hV := Valid_any a ad cap n f w hE h hn
  rw [errV_pos a hc] at hV ⊢
  generalize a (wdErr n f - 1) = p at hV ⊢
  clear h hE hc
  go_enter Tryd.func21, Tryd.ntmps21
  go_wp2_with (first
    | (go_at_call 43; refine hV.mono ?_; rintro e w1 ⟨rfl, hb1⟩; have HB1 := Hid.mk' hb1; clear hb1))
  go_ret2
  exact ⟨rfl, HB1.out⟩
set_option maxRecDepth 100000 in
theorem Decode_kind (a : Nat → Addr) (ad : Option Addr) (cap n : Nat) (f : Nat → ByteArray) (T : ByteArray) (w : World) (hE : Errs w a) (h : TxtAt w ad n f) (hn : n ≤ 1000000) (hc : wdErr n f = 0) (hap : apB f n = false) :
    Calls Tryd.prog 21 #[.slice ad n cap, .string T] w fun e w' => e = .returned (.tuple #[.slice none 0 0, errV a 8]) ∧ Below w.heap.size w w' := by
  have hV := Valid_any a ad cap n f w hE h hn
  rw [hc, errV_zero] at hV
  rw [errV_eight]
  have HA := Hid.mk' (fun (W : World) (hb : Below w.heap.size w W) => apart_any ad cap n f W (by omega) (h.later hb))
  rw [hap] at HA
  have HE := Hid.mk' (fun (W : World) (hb : Below w.heap.size w W) => (hE.below hb).c7)
  clear h hE hc
  go_enter Tryd.func21, Tryd.ntmps21
  go_wp2_with (first
    | (go_at_call 43; refine hV.mono ?_; rintro e w1 ⟨rfl, hb1⟩; have HB1 := Hid.mk' hb1; have c7 := HE.out _ hb1; clear hb1)
    | (go_at_call 44; refine (HA.out _ HB1.out).mono ?_; rintro e w2 ⟨rfl, hw2⟩; rw [hw2]; clear hw2)
    | go_quiet (fail))
  go_ret2
  exact ⟨rfl, below_drewN HB1.out _⟩
set_option maxRecDepth 100000 in
theorem Decode_long (a : Nat → Addr) (ad : Option Addr) (cap n : Nat) (f : Nat → ByteArray) (T : ByteArray) (w : World) (hE : Errs w a) (h : TxtAt w ad n f) (hn : n ≤ 1000000) (hc : wdErr n f = 0) (hap : apB f n = true) (hT : 4000 < T.size) :
    Calls Tryd.prog 21 #[.slice ad n cap, .string T] w fun e w' => e = .returned (.tuple #[.slice none 0 0, errV a 2]) ∧ Below w.heap.size w w' := by
  have hV := Valid_any a ad cap n f w hE h hn
  rw [hc, errV_zero] at hV
  rw [errV_two]
  have HA := Hid.mk' (fun (W : World) (hb : Below w.heap.size w W) => apart_any ad cap n f W (by omega) (h.later hb))
  rw [hap] at HA
  have HE := Hid.mk' (fun (W : World) (hb : Below w.heap.size w W) => (hE.below hb).c1)
  have hTI : (4000 : Int) < (T.size : Int) := by omega
  clear h hE hc
  go_enter Tryd.func21, Tryd.ntmps21
  go_wp2_with (first
    | (go_at_call 43; refine hV.mono ?_; rintro e w1 ⟨rfl, hb1⟩; have HB1 := Hid.mk' hb1; have c1 := HE.out _ hb1; clear hb1)
    | (go_at_call 44; refine (HA.out _ HB1.out).mono ?_; rintro e w2 ⟨rfl, hw2⟩; rw [hw2]; clear hw2)
    | go_quiet (fail))
  go_ret2
  exact ⟨rfl, below_drewN HB1.out _⟩
end Go.Proofs.YtcigmihfannmjabDoor
