/- The program's reader of Elias' words. -/
import Derived.Test.YtjmjedpeibnnnabDoorReadMath
import Derived.Test.YtjmjedpeibnnnabDoorWeights
import Derived.Test.YtjmjedpeibnnnabDoorValidWalk
namespace Go.Proofs.YtjmjedpeibnnnabDoor
open Go.RowKit

/-- A reader of a text at a place, in the first block behind w0. -/
structure RAt (w0 w : World) (t : ByteArray) (k : Nat) : Prop where
  below : Below w0.heap.size w0 w
  c0 : w.cell? ⟨w0.heap.size, 0, none⟩ = some (.string t)
  c1 : w.cell? ⟨w0.heap.size, 1, none⟩ = some (.int .i64 (k : Int))
  fz : w.frozen? ⟨w0.heap.size, 1, none⟩ = false
  le : k ≤ t.size
theorem RAt.drew {w0 w : World} {t : ByteArray} {k : Nat} (h : RAt w0 w t k) : RAt w0 w.drew t k := ⟨h.below.drew, h.c0, h.c1, h.fz, h.le⟩
theorem RAt.drewN {w0 w : World} {t : ByteArray} {k : Nat} (h : RAt w0 w t k) : ∀ m, RAt w0 (w.drewN m) t k
  | 0 => h
  | m + 1 => (h.drewN m).drew
theorem RAt.step {w0 w : World} {t : ByteArray} {k : Nat} (h : RAt w0 w t k) (hk : k < t.size) : RAt w0 (w.setCell ⟨w0.heap.size, 1, none⟩ (.int .i64 ((k : Int) + 1))) t (k + 1) :=
  ⟨h.below.setCell (Nat.le_refl _) _, by rw [World.cell?_setCell_other _ _ _ _ (by simp)]; exact h.c0, World.cell?_setCell_same _ _ _ h.c1, by rw [World.frozen?_setCell]; exact h.fz, hk⟩
/-- How a reading ends. -/
def Out (a : Nat → Addr) (e : Ending) (k' : Nat) : Nat ⊕ (Nat × Nat) → Prop
  | .inl c => e = .returned (.tuple #[.int .i64 0, errV a c])
  | .inr p => e = .returned (.tuple #[.int .i64 (p.1 : Int), .nilIface]) ∧ k' = p.2

set_option maxRecDepth 100000 in
set_option maxHeartbeats 1000000 in
theorem bit_any (a : Nat → Addr) (w0 : World) (t : ByteArray) (k : Nat) (w : World) (hE : Errs w0 a) (h : RAt w0 w t k) (ht : t.size ≤ 100000) :
    Calls Tryd.prog 40 #[.pointer (some ⟨w0.heap.size, 0, none⟩)] w fun e w' =>
      (bitAt t k = none ∧ e = .returned (.tuple #[.int .i64 0, errV a 1]) ∧ RAt w0 w' t k) ∨ ∃ b : Nat, bitAt t k = some b ∧ e = .returned (.tuple #[.int .i64 (b : Int), .nilIface]) ∧ RAt w0 w' t (k + 1) := by
  have e0 := (hE.below h.below).c0
  have y0 := h.c0
  have y1 := h.c1
  have y2 := h.fz
  have HR := Hid.mk' h
  have hk0 : (0 : Int) ≤ (k : Int) := by omega
  rcases Nat.lt_or_ge k t.size with h1 | h1
  · have hkI : (k : Int) < (t.size : Int) := by omega
    have hkb : ((k : Int) == (t.size : Int)) = false := by simp; omega
    have HF := Hid.mk' (fun (m m' : Nat) => ((h.drewN m).step h1).drewN m')
    have HG := Hid.mk' (fun (m : Nat) => h.drewN m)
    clear hE h
    by_cases hx0 : (t[k]'h1) = 48
    · have HB := Hid.mk' (bitAt_zero h1 hx0)
      have hn : ((t[k]'h1).toNat : Int) = 48 := by rw [hx0]; rfl
      clear hx0
      go_enter Tryd.func40, Tryd.ntmps40
      go_wp2_with fail
      go_quiet (fail)
      go_wp2_with fail
      go_quiet (fail)
      go_wp2_with fail
      go_ret2
      exact Or.inr ⟨0, HB.out, rfl, HF.out _ _⟩
    · by_cases hx1 : (t[k]'h1) = 49
      · have HB := Hid.mk' (bitAt_one h1 hx1)
        have hn : ((t[k]'h1).toNat : Int) = 49 := by rw [hx1]; rfl
        clear hx0 hx1
        go_enter Tryd.func40, Tryd.ntmps40
        go_wp2_with fail
        go_quiet (fail)
        go_wp2_with fail
        go_quiet (fail)
        go_wp2_with fail
        go_ret2
        exact Or.inr ⟨1, HB.out, rfl, HF.out _ _⟩
      · have HB := Hid.mk' (bitAt_other h1 hx0 hx1)
        have hn1 : ¬ (((t[k]'h1).toNat : Int) = 48) := fun h => hx0 (UInt8.toNat_inj.1 (by show _ = 48; omega))
        have hn2 : ¬ (((t[k]'h1).toNat : Int) = 49) := fun h => hx1 (UInt8.toNat_inj.1 (by show _ = 49; omega))
        have hm1 : (((t[k]'h1).toNat : Int) != 48) = true := by rw [bne_iff_ne]; exact hn1
        have hm2 : (((t[k]'h1).toNat : Int) != 49) = true := by rw [bne_iff_ne]; exact hn2
        clear hx0 hx1 hn1 hn2
        go_enter Tryd.func40, Tryd.ntmps40
        go_wp2_with fail
        go_quiet (fail)
        go_wp2_with fail
        go_quiet (fail)
        go_wp2_with fail
        go_ret2
        exact Or.inl ⟨HB.out, rfl, (HG.out _).drewN _⟩
  · obtain rfl : k = t.size := Nat.le_antisymm h.le h1
    have HB := Hid.mk' (bitAt_end (Nat.le_refl t.size))
    have HG := Hid.mk' (fun (m : Nat) => h.drewN m)
    clear hE h
    go_enter Tryd.func40, Tryd.ntmps40
    go_wp2_with fail
    go_quiet (fail)
    go_wp2_with fail
    go_quiet (fail)
    go_wp2_with fail
    go_ret2
    exact Or.inl ⟨HB.out, rfl, (HG.out _).drewN _⟩

set_option maxRecDepth 100000 in
set_option maxHeartbeats 1000000 in
theorem digits_any (a : Nat → Addr) (w0 : World) (t : ByteArray) (k c : Nat) (w : World) (hE : Errs w0 a) (h : RAt w0 w t k) (ht : t.size ≤ 100000) (hc : c ≤ 30) :
    Calls Tryd.prog 41 #[.pointer (some ⟨w0.heap.size, 0, none⟩), .int .i64 (c : Int)] w fun e w' => ∃ k', RAt w0 w' t k' ∧ Out a e k' (digR t c 1 k) := by
  have HBIT := Hid.mk' (fun W k (hW : RAt w0 W t k) => bit_any a w0 t k W hE hW ht)
  have HR := Hid.mk' h
  clear h hE
  go_enter Tryd.func41, Tryd.ntmps41
  go_wp2_with fail
  go_loopw [6, 10] (fun s i wr => ∃ j n k' : Nat, j ≤ c ∧ s = .int .i64 (n : Int) ∧ i = .int .i64 (j : Int) ∧ Hid (n < 2 ^ (j + 1)) ∧ Hid (RAt w0 wr t k') ∧ Hid (digR t c 1 k = digR t (c - j) n k')) (fun _ i _ => c - (intOf i).toNat)
  case atStart => exact ⟨0, 1, k, Nat.zero_le _, rfl, rfl, (by decide : 1 < 2 ^ (0 + 1)), HR.out, rfl⟩
  case round =>
    obtain ⟨j, n, k', hj, rfl, rfl, HN, HRR, HD⟩ := hrel
    rcases Nat.lt_or_ge j c with h1 | h1
    · have hjc : (j : Int) < (c : Int) := by omega
      have hn31 : n < 2 ^ 30 := Nat.lt_of_lt_of_le HN.out (Nat.pow_le_pow_right (by decide) (by omega))
      have hn30 : n < 1073741824 := hn31
      clear hn31
      go_wp2_with fail
      refine (HBIT.out _ _ HRR.out).mono ?_
      rintro e w1 (⟨hb, rfl, hr1⟩ | ⟨b, hb, rfl, hr1⟩)
      · have HF : Hid (digR t c 1 k = .inl 1) := by show _ = _; rw [HD.out, show c - j = (c - j - 1) + 1 by omega, digR_none hb]
        have HR1 := Hid.mk' hr1
        clear hb hr1
        rw [errV_pos a (by decide)]
        go_wp2_with fail
        go_ret2
        exact ⟨_, HR1.out, by rw [HF.out]; rfl⟩
      · have hb1 := (bitAt_some hb).2
        have HF : Hid (digR t c 1 k = digR t (c - (j + 1)) (2 * n + b) (k' + 1)) := by show _ = _; rw [HD.out, show c - j = (c - (j + 1)) + 1 by omega, digR_some hb]
        have HR1 := Hid.mk' hr1
        have HN2 : Hid (2 * n + b < 2 ^ (j + 1 + 1)) := by have := HN.out; show _ < _; rw [Nat.pow_succ]; omega
        have hb2 : b ≤ 1 := by omega
        clear hb hr1 hb1
        go_wp2_with fail
        exact ⟨⟨j + 1, 2 * n + b, k' + 1, h1, by go_num, by go_num, HN2.out, HR1.out, HF.out⟩, by simp [intOf]; omega⟩
    · obtain rfl : c = j := by omega
      have HF : Hid (digR t c 1 k = .inr (n, k')) := by show _ = _; rw [HD.out, Nat.sub_self]; rfl
      go_wp2_with fail
      go_ret2
      exact ⟨_, HRR.out, by rw [HF.out]; exact ⟨rfl, rfl⟩⟩

set_option maxRecDepth 100000 in
set_option maxHeartbeats 1000000 in
theorem gamma_any (a : Nat → Addr) (w0 : World) (t : ByteArray) (k : Nat) (w : World) (hE : Errs w0 a) (h : RAt w0 w t k) (ht : t.size ≤ 100000) :
    Calls Tryd.prog 23 #[.pointer (some ⟨w0.heap.size, 0, none⟩)] w fun e w' => ∃ k', RAt w0 w' t k' ∧ Out a e k' (gamR t 31 0 k) := by
  have HBIT := Hid.mk' (fun W k (hW : RAt w0 W t k) => bit_any a w0 t k W hE hW ht)
  have HDIG := Hid.mk' (fun W k c (hW : RAt w0 W t k) (hc : c ≤ 30) => digits_any a w0 t k c W hE hW ht hc)
  have HE := Hid.mk' (fun W k (hW : RAt w0 W t k) => (hE.below hW.below).c1)
  have HR := Hid.mk' h
  clear h hE
  go_enter Tryd.func23, Tryd.ntmps23
  go_wp2_with fail
  go_loopw [4] (fun i wr => ∃ j k' : Nat, j ≤ 30 ∧ i = .int .i64 (j : Int) ∧ Hid (RAt w0 wr t k') ∧ Hid (gamR t 31 0 k = gamR t (31 - j) j k')) (fun i _ => 31 - (intOf i).toNat)
  case atStart => exact ⟨0, k, Nat.zero_le _, rfl, HR.out, rfl⟩
  case round =>
    obtain ⟨j, k', hj, rfl, HRR, HD⟩ := hrel
    go_wp2_with fail
    refine (HBIT.out _ _ HRR.out).mono ?_
    rintro e w1 (⟨hb, rfl, hr1⟩ | ⟨b, hb, rfl, hr1⟩)
    · have HF : Hid (gamR t 31 0 k = .inl 1) := by show _ = _; rw [HD.out, show 31 - j = (30 - j) + 1 by omega, gamR_none hb]
      have HR1 := Hid.mk' hr1
      clear hb hr1
      rw [errV_pos a (by decide)]
      go_wp2_with fail
      go_ret2
      exact ⟨_, HR1.out, by rw [HF.out]; rfl⟩
    · have HR1 := Hid.mk' hr1
      rcases (bitAt_some hb).2 with rfl | rfl
      · have HF : Hid (gamR t 31 0 k = gamR t (30 - j) (j + 1) (k' + 1)) := by show _ = _; rw [HD.out, show 31 - j = (30 - j) + 1 by omega, gamR_zero hb]
        have e1 := HE.out _ _ hr1
        clear hb hr1
        by_cases h30 : j = 30
        · subst h30
          go_wp2_with fail
          go_quiet (fail)
          go_wp2_with fail
          go_ret2
          exact ⟨_, HR1.out.drewN _, by rw [HF.out]; rfl⟩
        · have hjb : ((j : Int) == 30) = false := by simp; omega
          go_wp2_with fail
          exact ⟨⟨j + 1, k' + 1, by omega, by go_num, HR1.out, by rw [show 31 - (j + 1) = 30 - j by omega]; exact HF.out⟩, by simp [intOf]; omega⟩
      · have HF : Hid (gamR t 31 0 k = digR t j 1 (k' + 1)) := by show _ = _; rw [HD.out, show 31 - j = (30 - j) + 1 by omega, gamR_one hb]
        clear hb hr1
        go_wp2_with fail
        refine (HDIG.out _ _ _ HR1.out hj).mono ?_
        rintro e w2 ⟨k2, hr2, ho⟩
        have HR2 := Hid.mk' hr2
        clear hr2
        cases hd : digR t j 1 (k' + 1) with
        | inl c =>
          rw [hd] at ho
          obtain rfl : e = _ := ho
          have HF2 : Hid (gamR t 31 0 k = .inl c) := by show _ = _; rw [HF.out, hd]
          clear hd HF
          go_wp2_with fail
          go_ret2
          exact ⟨_, HR2.out, by rw [HF2.out]; rfl⟩
        | inr p =>
          rw [hd] at ho
          obtain ⟨rfl, rfl⟩ := ho
          have HF2 : Hid (gamR t 31 0 k = .inr p) := by show _ = _; rw [HF.out, hd]
          clear hd HF
          go_wp2_with fail
          go_ret2
          exact ⟨_, HR2.out, by rw [HF2.out]; exact ⟨rfl, rfl⟩⟩

theorem digR_room {t : ByteArray} {c k n k' : Nat} (hc : c ≤ 30) (hk : k ≤ t.size) (h : digR t c 1 k = .inr (n, k')) : 1 ≤ n ∧ n < 2147483648 ∧ k' = k + c ∧ k' ≤ t.size := by
  obtain ⟨h1, h2, h3, h4⟩ := digR_le h hk
  refine ⟨h1, Nat.lt_of_lt_of_le h2 ?_, h3, h4⟩
  exact Nat.le_trans (Nat.mul_le_mul_left 2 (Nat.pow_le_pow_right (by decide) hc)) (by decide)
set_option maxRecDepth 100000 in
set_option maxHeartbeats 1000000 in
theorem delta_any (a : Nat → Addr) (w0 : World) (t : ByteArray) (k : Nat) (w : World) (hE : Errs w0 a) (h : RAt w0 w t k) (ht : t.size ≤ 100000) :
    Calls Tryd.prog 24 #[.pointer (some ⟨w0.heap.size, 0, none⟩)] w fun e w' => ∃ k', RAt w0 w' t k' ∧ Out a e k' (delR t k) := by
  have hG := gamma_any a w0 t k w hE h ht
  have HDIG := Hid.mk' (fun W k c (hW : RAt w0 W t k) (hc : c ≤ 30) => digits_any a w0 t k c W hE hW ht hc)
  have HE := Hid.mk' (fun W k (hW : RAt w0 W t k) => (hE.below hW.below).c1)
  have HLE := Hid.mk' h.le
  clear h hE
  go_enter Tryd.func24, Tryd.ntmps24
  go_wp2_with fail
  refine hG.mono ?_
  clear hG
  rintro e w1 ⟨k1, hr1, ho⟩
  have HR1 := Hid.mk' hr1
  have e1 := HE.out _ _ hr1
  clear hr1
  cases hg : gamR t 31 0 k with
  | inl c =>
    rw [hg] at ho
    obtain rfl : e = _ := ho
    have hc0 : c ≠ 0 := by rcases gamR_err hg with rfl | rfl <;> decide
    have HF := Hid.mk' (delR_bad hg)
    have HV := Hid.mk' (errV_pos a hc0)
    rw [errV_pos a hc0]
    clear hg hc0
    go_wp2_with fail
    go_ret2
    exact ⟨_, HR1.out, by rw [HF.out]; exact congrArg (fun v => Ending.returned (.tuple #[.int .i64 0, v])) HV.out.symm⟩
  | inr p =>
    obtain ⟨c, k2⟩ := p
    rw [hg] at ho
    obtain ⟨rfl, hk2⟩ := ho
    obtain ⟨g1, g2, g3⟩ := gamR_le hg HLE.out (by decide)
    have g2' : c < 2147483648 := g2
    clear g2
    by_cases hc : 30 < c
    · have HF := Hid.mk' (delR_great hg hc)
      have hcI : (30 : Int) < (c : Int) := by omega
      clear hg
      go_wp2_with fail
      go_quiet (fail)
      go_wp2_with fail
      go_ret2
      exact ⟨_, HR1.out.drewN _, by rw [HF.out]; rfl⟩
    · have HF := Hid.mk' (delR_ok hg hc)
      have hcI : ¬ (30 : Int) < (c : Int) := by omega
      have HDG := Hid.mk' (HDIG.out _ _ (c - 1) HR1.out (by omega))
      rw [show ((c - 1 : Nat) : Int) = (c : Int) - 1 by omega] at HDG
      subst hk2
      clear hg
      go_wp2_with fail
      refine HDG.out.mono ?_
      rintro e w2 ⟨k3, hr2, ho⟩
      have HR2 := Hid.mk' hr2
      clear hr2 HDG
      have HF := Hid.mk' (HF.out)
      cases hd : digR t (c - 1) 1 k1 with
      | inl x =>
        rw [hd] at ho
        obtain rfl : e = _ := ho
        have HF2 : Hid (delR t k = .inl x) := by show _ = _; rw [HF.out, hd]
        clear hd HF
        go_wp2_with fail
        go_ret2
        exact ⟨_, HR2.out, by rw [HF2.out]; rfl⟩
      | inr p =>
        rw [hd] at ho
        obtain ⟨rfl, rfl⟩ := ho
        have HF2 : Hid (delR t k = .inr p) := by show _ = _; rw [HF.out, hd]
        clear hd HF
        go_wp2_with fail
        go_ret2
        exact ⟨_, HR2.out, by rw [HF2.out]; exact ⟨rfl, rfl⟩⟩
end Go.Proofs.YtjmjedpeibnnnabDoor
