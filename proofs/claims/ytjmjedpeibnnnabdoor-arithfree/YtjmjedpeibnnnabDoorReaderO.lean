/- The program's reader: Omega words, and the faces. -/
import Derived.Test.YtjmjedpeibnnnabDoorReader
import Derived.Deep.LoopGhost
namespace Go.Proofs.YtjmjedpeibnnnabDoor
open Go.RowKit

set_option maxRecDepth 100000 in
set_option maxHeartbeats 1000000 in
theorem omega_any (a : Nat → Addr) (w0 : World) (t : ByteArray) (w : World) (hE : Errs w0 a) (h : RAt w0 w t 0) (ht : t.size ≤ 100000) :
    Calls Tryd.prog 25 #[.pointer (some ⟨w0.heap.size, 0, none⟩)] w fun e w' => ∃ k', RAt w0 w' t k' ∧ Out a e k' (omR t t.size 1 0) := by
  have HBIT := Hid.mk' (fun W k (hW : RAt w0 W t k) => bit_any a w0 t k W hE hW ht)
  have HDIG := Hid.mk' (fun W k c (hW : RAt w0 W t k) (hc : c ≤ 30) => digits_any a w0 t k c W hE hW ht hc)
  have HE := Hid.mk' (fun W k (hW : RAt w0 W t k) => (hE.below hW.below).c1)
  have HR := Hid.mk' h
  clear h hE
  go_enter Tryd.func25, Tryd.ntmps25
  go_wp2_with fail
  go_loopg [4] t.size (fun gk i wr => ∃ n k' f : Nat, gk = t.size - k' ∧ i = .int .i64 (n : Int) ∧ n < 2147483648 ∧ Hid (t.size ≤ k' + f) ∧ Hid (RAt w0 wr t k') ∧ Hid (omR t t.size 1 0 = omR t f n k'))
  case atStart => exact ⟨1, 0, t.size, rfl, rfl, by decide, (by simp : t.size ≤ 0 + t.size), HR.out, rfl⟩
  case round =>
    obtain ⟨n, k', f, hmu, rfl, hn, HF0, HRR, HD⟩ := hrel
    go_wp2_with fail
    refine (HBIT.out _ _ HRR.out).mono ?_
    rintro e w1 (⟨hb, rfl, hr1⟩ | ⟨b, hb, rfl, hr1⟩)
    · have HF : Hid (omR t t.size 1 0 = .inl 1) := by show _ = _; rw [HD.out, omR_none hb]
      have HR1 := Hid.mk' hr1
      clear hb hr1
      rw [errV_pos a (by decide)]
      go_wp2_with fail
      go_ret2
      exact ⟨_, HR1.out, by rw [HF.out]; rfl⟩
    · have HR1 := Hid.mk' hr1
      obtain ⟨hlt, hb01⟩ := bitAt_some hb
      obtain ⟨g, hg⟩ : ∃ g, f = g + 1 := ⟨f - 1, by have := HF0.out; omega⟩
      subst hg
      rcases hb01 with rfl | rfl
      · have HF : Hid (omR t t.size 1 0 = .inr (n, k' + 1)) := by show _ = _; rw [HD.out, omR_zero hb]
        clear hb hr1
        go_wp2_with fail
        go_ret2
        exact ⟨_, HR1.out, by rw [HF.out]; exact ⟨rfl, rfl⟩⟩
      · by_cases h30 : 30 ≤ n
        · have HF : Hid (omR t t.size 1 0 = .inl 2) := by show _ = _; rw [HD.out, omR_great hb h30]
          have e1 := HE.out _ _ hr1
          have hnI : (30 : Int) ≤ (n : Int) := by omega
          clear hb hr1
          go_wp2_with fail
          go_quiet (fail)
          go_wp2_with fail
          go_ret2
          exact ⟨_, HR1.out.drewN _, by rw [HF.out]; rfl⟩
        · have HF := Hid.mk' (fun (e : Nat) => omR_bad (f := g) (e := e) hb h30)
          have HF2 := Hid.mk' (fun (n' k2 : Nat) => omR_next (f := g) (n' := n') (k' := k2) hb h30)
          have hnI : ¬ (30 : Int) ≤ (n : Int) := by omega
          clear hb hr1
          go_wp2_with fail
          refine (HDIG.out _ _ _ HR1.out (by omega)).mono ?_
          rintro e w2 ⟨k2, hr2, ho⟩
          have HR2 := Hid.mk' hr2
          clear hr2
          cases hd : digR t n 1 (k' + 1) with
          | inl c =>
            rw [hd] at ho
            obtain rfl : e = _ := ho
            have hc1 := digR_err hd
            have HF3 : Hid (omR t t.size 1 0 = .inl c) := by show _ = _; rw [HD.out, HF.out c hd]
            subst hc1
            clear hd HF HF2
            rw [errV_pos a (by decide)]
            go_wp2_with fail
            go_ret2
            exact ⟨_, HR2.out, by rw [HF3.out]; rfl⟩
          | inr p =>
            obtain ⟨n', k3⟩ := p
            rw [hd] at ho
            obtain ⟨rfl, hk3⟩ := ho
            have hk3' : k2 = k3 := hk3
            subst hk3'
            have HF3 : Hid (omR t t.size 1 0 = omR t g n' k2) := by show _ = _; rw [HD.out, HF2.out n' k2 hd]
            obtain ⟨q1, q2, q3, q4⟩ := digR_room (by omega) hlt hd
            clear hd HF HF2 hk3
            go_wp2_with fail
            go_roundg (t.size - k2)
            case measure => omega
            case rel => exact ⟨n', k2, g, rfl, rfl, q2, (by have := HF0.out; omega : t.size ≤ k2 + g), HR2.out, HF3.out⟩

/-- How a reading with its place ends. -/
def Out3 (a : Nat → Addr) (p : Nat × Nat × Nat) : Ending := .returned (.tuple #[.int .i64 (p.1 : Int), .int .i64 (p.2.1 : Int), errV a p.2.2])
theorem gamR_le' {t : ByteArray} {n' k' : Nat} (h : gamR t 31 0 0 = .inr (n', k')) : n' < 2147483648 := (gamR_le h (Nat.zero_le _) (by decide)).2.1
theorem delR_le {t : ByteArray} {n' k' : Nat} (h : delR t 0 = .inr (n', k')) : n' < 2147483648 := by
  cases hg : gamR t 31 0 0 with
  | inl e => rw [delR_bad hg] at h; cases h
  | inr p =>
    obtain ⟨c, k1⟩ := p
    have h1 := gamR_le hg (Nat.zero_le _) (by decide)
    by_cases hc : 30 < c
    · rw [delR_great hg hc] at h; cases h
    · rw [delR_ok hg hc] at h
      exact (digR_room (by omega) h1.2.2 h).2.1
theorem delR_err {t : ByteArray} {e : Nat} (h : delR t 0 = .inl e) : e = 1 ∨ e = 2 := by
  cases hg : gamR t 31 0 0 with
  | inl x => rw [delR_bad hg] at h; obtain rfl : x = e := by simpa using h
             exact gamR_err hg
  | inr p =>
    obtain ⟨c, k1⟩ := p
    by_cases hc : 30 < c
    · rw [delR_great hg hc] at h; exact Or.inr (by simpa using h.symm)
    · rw [delR_ok hg hc] at h; exact Or.inl (digR_err h)
theorem omR_le {t : ByteArray} : ∀ {f n k n' k' : Nat}, omR t f n k = .inr (n', k') → n < 2147483648 → n' < 2147483648
  | 0, n, k, n', k', h, hn => by cases h
  | f + 1, n, k, n', k', h, hn => by
    cases hb : bitAt t k with
    | none => rw [omR_none hb] at h; cases h
    | some b =>
      obtain ⟨h1, h2⟩ := bitAt_some hb
      rcases h2 with rfl | rfl
      · rw [omR_zero hb] at h
        obtain ⟨rfl, _⟩ : n = n' ∧ k + 1 = k' := by simpa using h
        exact hn
      · by_cases h30 : 30 ≤ n
        · rw [omR_great hb h30] at h; cases h
        · cases hd : digR t n 1 (k + 1) with
          | inl e => rw [omR_bad hb h30 hd] at h; cases h
          | inr p =>
            obtain ⟨n2, k2⟩ := p
            rw [omR_next hb h30 hd] at h
            exact omR_le h (digR_room (by omega) h1 hd).2.1
theorem omR_err {t : ByteArray} : ∀ {f n k e : Nat}, omR t f n k = .inl e → e = 1 ∨ e = 2
  | 0, n, k, e, h => Or.inl (by simpa [omR] using h.symm)
  | f + 1, n, k, e, h => by
    cases hb : bitAt t k with
    | none => rw [omR_none hb] at h; exact Or.inl (by simpa using h.symm)
    | some b =>
      obtain ⟨h1, h2⟩ := bitAt_some hb
      rcases h2 with rfl | rfl
      · rw [omR_zero hb] at h; cases h
      · by_cases h30 : 30 ≤ n
        · rw [omR_great hb h30] at h; exact Or.inr (by simpa using h.symm)
        · cases hd : digR t n 1 (k + 1) with
          | inl x =>
            rw [omR_bad hb h30 hd] at h
            obtain rfl : x = e := by simpa using h
            exact Or.inl (digR_err hd)
          | inr p => rw [omR_next hb h30 hd] at h; exact omR_err h
theorem wordR_err {t : ByteArray} {i e : Nat} (h : wordR t i = .inl e) : e = 1 ∨ e = 2 := by
  rcases i with _ | _ | i
  · exact gamR_err h
  · exact delR_err h
  · exact omR_err h
theorem wordR_le {t : ByteArray} {i n k : Nat} (h : wordR t i = .inr (n, k)) : n < 2147483648 := by
  rcases i with _ | _ | i
  · exact gamR_le' h
  · exact delR_le h
  · exact omR_le h (by decide)

set_option maxRecDepth 100000 in
set_option maxHeartbeats 1000000 in
theorem read_any (a : Nat → Addr) (t : ByteArray) (F : Nat) (hF3 : F = 23 ∨ F = 24 ∨ F = 25) (r : Nat ⊕ (Nat × Nat)) (w : World) (hE : Errs w a) (ht : t.size ≤ 4000) (hr : ∀ e, r = .inl e → e = 1 ∨ e = 2) (hn : ∀ n k, r = .inr (n, k) → n < 2147483648)
    (hF : ∀ W, RAt w W t 0 → Calls Tryd.prog F #[.pointer (some ⟨w.heap.size, 0, none⟩)] W fun e w' => ∃ k', RAt w w' t k' ∧ Out a e k' r) :
    Calls Tryd.prog 22 #[.string t, .func (.func F) #[] #[]] w fun e w' => e = Out3 a (finR r) ∧ Below w.heap.size w w' := by
  have hR0 : RAt w (w.alloc (.cells #[.string t, .int .i64 0] 77)) t 0 := ⟨(Below.refl _ _).alloc (Nat.le_refl _) _, by simp, by simp, by simp, Nat.zero_le _⟩
  have hc := hF _ hR0
  have htI : ¬ (4000 : Int) < (t.size : Int) := by omega
  have HE := Hid.mk' (fun W k (hW : RAt w W t k) => (hE.below hW.below).c1)
  clear hF hR0 hE
  rcases hF3 with rfl | rfl | rfl
  all_goals (
    go_enter Tryd.func22, Tryd.ntmps22
    go_wp2_with fail
    refine hc.mono ?_
    clear hc
    rintro e w1 ⟨k1, hr1, ho⟩
    have e1 := HE.out _ _ hr1
    have y1 := hr1.c1
    have HR1 := Hid.mk' hr1
    clear hr1
    cases r with
    | inl c =>
      obtain rfl : e = _ := ho
      have hc0 : c ≠ 0 := by rcases hr c rfl with rfl | rfl <;> decide
      have HV := Hid.mk' (errV_pos a hc0)
      rw [errV_pos a hc0]
      clear hr hn
      go_wp2_with fail
      go_ret3
      exact ⟨congrArg (fun v => Ending.returned (.tuple #[.int .i64 0, .int .i64 0, v])) HV.out.symm, HR1.out.below⟩
    | inr p =>
      obtain ⟨n, k2⟩ := p
      obtain ⟨rfl, hk2⟩ := ho
      have hk2' : k1 = k2 := hk2
      subst hk2'
      have hn31 := hn n k1 rfl
      clear hr hn hk2
      by_cases hg : 1000000000 < n
      · have HF := Hid.mk' (finR_great (k := k1) hg)
        have hgI : (1000000000 : Int) < (n : Int) := by omega
        go_wp2_with fail
        go_quiet (fail)
        go_wp2_with fail
        go_ret3
        exact ⟨by rw [HF.out]; rfl, (HR1.out.drewN _).below⟩
      · have HF := Hid.mk' (finR_ok (k := k1) hg)
        have hgI : ¬ (1000000000 : Int) < (n : Int) := by omega
        go_wp2_with fail
        go_quiet (fail)
        go_wp2_with fail
        go_ret3
        exact ⟨by rw [HF.out]; rfl, (HR1.out.drewN _).below⟩)
set_option maxRecDepth 100000 in
theorem read_long (a : Nat → Addr) (t : ByteArray) (F : Nat) (w : World) (hE : Errs w a) (ht : 4000 < t.size) (ht2 : t.size ≤ 9223372036854775807) :
    Calls Tryd.prog 22 #[.string t, .func (.func F) #[] #[]] w fun e w' => e = Out3 a (0, 0, 2) ∧ Below w.heap.size w w' := by
  have e1 := hE.c1
  have htI : (4000 : Int) < (t.size : Int) := by omega
  clear hE
  go_enter Tryd.func22, Tryd.ntmps22
  go_wp2_with fail
  go_quiet (fail)
  go_wp2_with fail
  go_ret3
  exact ⟨rfl, below_drewN (Below.refl _ _) _⟩
/-- What is read of a text, or ErrBound of one too long. -/
def readE (t : ByteArray) (i : Nat) : Nat × Nat × Nat := if 4000 < t.size then (0, 0, 2) else finR (wordR t i)
theorem readE_err {t : ByteArray} {i : Nat} : (readE t i).2.2 ≤ 2 := by
  unfold readE
  split
  · exact Nat.le_refl _
  · cases h : wordR t i with
    | inl e => rcases wordR_err h with rfl | rfl <;> decide
    | inr p =>
      obtain ⟨n, k⟩ := p
      by_cases hn : 1000000000 < n
      · rw [finR_great hn]; exact Nat.le_refl _
      · rw [finR_ok hn]; exact Nat.zero_le _
theorem read_kind (a : Nat → Addr) (t : ByteArray) (F i : Nat) (hF3 : F = 23 ∨ F = 24 ∨ F = 25) (w : World) (hE : Errs w a) (ht : t.size ≤ 9223372036854775807)
    (hF : t.size ≤ 4000 → ∀ W, RAt w W t 0 → Calls Tryd.prog F #[.pointer (some ⟨w.heap.size, 0, none⟩)] W fun e w' => ∃ k', RAt w w' t k' ∧ Out a e k' (wordR t i)) :
    Calls Tryd.prog 22 #[.string t, .func (.func F) #[] #[]] w fun e w' => e = Out3 a (readE t i) ∧ Below w.heap.size w w' := by
  unfold readE
  by_cases h : 4000 < t.size
  · rw [if_pos h]; exact read_long a t F w hE h ht
  · rw [if_neg h]; exact read_any a t F hF3 _ w hE (by omega) (fun e => wordR_err) (fun n k => wordR_le) (hF (by omega))
set_option maxRecDepth 100000 in
theorem ReadGamma_any (a : Nat → Addr) (t : ByteArray) (w : World) (hE : Errs w a) (ht : t.size ≤ 9223372036854775807) :
    Calls Tryd.prog 14 #[.string t] w fun e w' => e = Out3 a (readE t 0) ∧ Below w.heap.size w w' := by
  have h := read_kind a t 23 0 (Or.inl rfl) w hE ht (fun ht4 W hW => gamma_any a w t 0 W hE hW (by omega))
  unfold Out3 at h ⊢
  obtain ⟨v, hv⟩ : ∃ v, v = errV a (readE t 0).2.2 := ⟨_, rfl⟩
  rw [← hv] at h ⊢
  clear hv
  go_enter Tryd.func14, Tryd.ntmps14
  go_wp2_with fail
  refine h.mono ?_
  clear h
  rintro e w1 ⟨rfl, hb1⟩
  go_wp2_with fail
  go_ret3
  exact ⟨rfl, hb1⟩
set_option maxRecDepth 100000 in
theorem ReadDelta_any (a : Nat → Addr) (t : ByteArray) (w : World) (hE : Errs w a) (ht : t.size ≤ 9223372036854775807) :
    Calls Tryd.prog 15 #[.string t] w fun e w' => e = Out3 a (readE t 1) ∧ Below w.heap.size w w' := by
  have h := read_kind a t 24 1 (Or.inr (Or.inl rfl)) w hE ht (fun ht4 W hW => delta_any a w t 0 W hE hW (by omega))
  unfold Out3 at h ⊢
  obtain ⟨v, hv⟩ : ∃ v, v = errV a (readE t 1).2.2 := ⟨_, rfl⟩
  rw [← hv] at h ⊢
  clear hv
  go_enter Tryd.func15, Tryd.ntmps15
  go_wp2_with fail
  refine h.mono ?_
  clear h
  rintro e w1 ⟨rfl, hb1⟩
  go_wp2_with fail
  go_ret3
  exact ⟨rfl, hb1⟩
set_option maxRecDepth 100000 in
theorem ReadOmega_any (a : Nat → Addr) (t : ByteArray) (w : World) (hE : Errs w a) (ht : t.size ≤ 9223372036854775807) :
    Calls Tryd.prog 16 #[.string t] w fun e w' => e = Out3 a (readE t 2) ∧ Below w.heap.size w w' := by
  have h := read_kind a t 25 2 (Or.inr (Or.inr rfl)) w hE ht (fun ht4 W hW => omega_any a w t W hE hW (by omega))
  unfold Out3 at h ⊢
  obtain ⟨v, hv⟩ : ∃ v, v = errV a (readE t 2).2.2 := ⟨_, rfl⟩
  rw [← hv] at h ⊢
  clear hv
  go_enter Tryd.func16, Tryd.ntmps16
  go_wp2_with fail
  refine h.mono ?_
  clear h
  rintro e w1 ⟨rfl, hb1⟩
  go_wp2_with fail
  go_ret3
  exact ⟨rfl, hb1⟩
set_option maxRecDepth 100000 in
theorem readWord_any (a : Nat → Addr) (t : ByteArray) (i : Nat) (hi : i < 3) (w : World) (hE : Errs w a) (ht : t.size ≤ 9223372036854775807) :
    Calls Tryd.prog 8 #[.int .i64 (i : Int), .string t] w fun e w' => e = Out3 a (readE t i) ∧ Below w.heap.size w w' := by
  have h0 := ReadGamma_any a t w hE ht
  have h1 := ReadDelta_any a t w hE ht
  have h2 := ReadOmega_any a t w hE ht
  clear hE
  unfold Out3 at h0 h1 h2 ⊢
  rcases (show i = 0 ∨ i = 1 ∨ i = 2 by omega) with rfl | rfl | rfl
  · obtain ⟨v, hv⟩ : ∃ v, v = errV a (readE t 0).2.2 := ⟨_, rfl⟩
    rw [← hv] at h0 ⊢
    clear hv
    go_enter Tryd.func8, Tryd.ntmps8
    go_wp2_with fail
    refine h0.mono ?_
    clear h0 h1 h2
    rintro e w1 ⟨rfl, hb1⟩
    go_wp2_with fail
    go_ret3
    exact ⟨rfl, hb1⟩
  · obtain ⟨v, hv⟩ : ∃ v, v = errV a (readE t 1).2.2 := ⟨_, rfl⟩
    rw [← hv] at h1 ⊢
    clear hv
    go_enter Tryd.func8, Tryd.ntmps8
    go_wp2_with fail
    refine h1.mono ?_
    clear h0 h1 h2
    rintro e w1 ⟨rfl, hb1⟩
    go_wp2_with fail
    go_ret3
    exact ⟨rfl, hb1⟩
  · obtain ⟨v, hv⟩ : ∃ v, v = errV a (readE t 2).2.2 := ⟨_, rfl⟩
    rw [← hv] at h2 ⊢
    clear hv
    go_enter Tryd.func8, Tryd.ntmps8
    go_wp2_with fail
    refine h2.mono ?_
    clear h0 h1 h2
    rintro e w1 ⟨rfl, hb1⟩
    go_wp2_with fail
    go_ret3
    exact ⟨rfl, hb1⟩
end Go.Proofs.YtjmjedpeibnnnabDoor
