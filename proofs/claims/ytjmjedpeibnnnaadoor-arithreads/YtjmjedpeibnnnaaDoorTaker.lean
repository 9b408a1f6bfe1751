/- The document's taker of bits. -/
import Derived.Test.YtjmjedpeibnnnaaDoorReadMath
import Derived.Test.YtjmjedpeibnnnaaDoorReaderO
namespace Go.Proofs.YtjmjedpeibnnnaaDoor
open Go.RowKit

/-- A taker of a text at a place, with an error's number, in the first block behind w0. -/
structure TAt (w0 w : World) (t : ByteArray) (k c : Nat) : Prop where
  below : Below w0.heap.size w0 w
  c0 : w.cell? ⟨w0.heap.size, 0, none⟩ = some (.string t)
  c1 : w.cell? ⟨w0.heap.size, 1, none⟩ = some (.int .i64 (k : Int))
  c2 : w.cell? ⟨w0.heap.size, 2, none⟩ = some (.int .i64 (c : Int))
  f1 : w.frozen? ⟨w0.heap.size, 1, none⟩ = false
  f2 : w.frozen? ⟨w0.heap.size, 2, none⟩ = false
  le : k ≤ t.size
theorem TAt.drew {w0 w : World} {t : ByteArray} {k c : Nat} (h : TAt w0 w t k c) : TAt w0 w.drew t k c := ⟨h.below.drew, h.c0, h.c1, h.c2, h.f1, h.f2, h.le⟩
theorem TAt.drewN {w0 w : World} {t : ByteArray} {k c : Nat} (h : TAt w0 w t k c) : ∀ m, TAt w0 (w.drewN m) t k c
  | 0 => h
  | m + 1 => (h.drewN m).drew
theorem TAt.step {w0 w : World} {t : ByteArray} {k c : Nat} (h : TAt w0 w t k c) (hk : k < t.size) : TAt w0 (w.setCell ⟨w0.heap.size, 1, none⟩ (.int .i64 ((k : Int) + 1))) t (k + 1) c :=
  ⟨h.below.setCell (Nat.le_refl _) _, by rw [World.cell?_setCell_other _ _ _ _ (by simp)]; exact h.c0, World.cell?_setCell_same _ _ _ h.c1, by rw [World.cell?_setCell_other _ _ _ _ (by simp)]; exact h.c2, by rw [World.frozen?_setCell]; exact h.f1, by rw [World.frozen?_setCell]; exact h.f2, hk⟩
theorem TAt.code {w0 w : World} {t : ByteArray} {k c : Nat} (h : TAt w0 w t k c) (c' : Nat) : TAt w0 (w.setCell ⟨w0.heap.size, 2, none⟩ (.int .i64 (c' : Int))) t k c' :=
  ⟨h.below.setCell (Nat.le_refl _) _, by rw [World.cell?_setCell_other _ _ _ _ (by simp)]; exact h.c0, by rw [World.cell?_setCell_other _ _ _ _ (by simp)]; exact h.c1, World.cell?_setCell_same _ _ _ h.c2, by rw [World.frozen?_setCell]; exact h.f1, by rw [World.frozen?_setCell]; exact h.f2, h.le⟩
def TOut (w0 w' : World) (t : ByteArray) (e : Ending) : Nat ⊕ (Nat × Nat) → Prop
  | .inl c => ∃ x k' : Nat, x < 4294967296 ∧ e = .returned (.int .i64 (x : Int)) ∧ TAt w0 w' t k' c
  | .inr p => e = .returned (.int .i64 (p.1 : Int)) ∧ TAt w0 w' t p.2 0

set_option maxRecDepth 100000 in
theorem bitT_bad (w0 : World) (t : ByteArray) (k c : Nat) (w : World) (h : TAt w0 w t k c) (hc : 0 < c) (hc2 : c ≤ 8) :
    Calls Tryd.prog 71 #[.pointer (some ⟨w0.heap.size, 0, none⟩)] w fun e w' => e = .returned (.int .i64 0) ∧ TAt w0 w' t k c := by
  have y2 := h.c2
  have HR := Hid.mk' h
  have hcI : (0 : Int) < (c : Int) := by omega
  clear h
  go_enter Tryd.func71, Tryd.ntmps71
  go_wp2_with fail
  go_ret
  exact ⟨rfl, HR.out⟩
set_option maxRecDepth 100000 in
set_option maxHeartbeats 1000000 in
theorem bitT_any (w0 : World) (t : ByteArray) (k : Nat) (w : World) (h : TAt w0 w t k 0) (ht : t.size ≤ 100000) :
    Calls Tryd.prog 71 #[.pointer (some ⟨w0.heap.size, 0, none⟩)] w fun e w' =>
      (bitAt t k = none ∧ e = .returned (.int .i64 0) ∧ TAt w0 w' t k 1) ∨ ∃ b : Nat, bitAt t k = some b ∧ e = .returned (.int .i64 (b : Int)) ∧ TAt w0 w' t (k + 1) 0 := by
  have y0 := h.c0
  have y1 := h.c1
  have y2 : w.cell? ⟨w0.heap.size, 2, none⟩ = some (.int .i64 0) := h.c2
  have y3 := h.f1
  have y4 := h.f2
  have HR := Hid.mk' h
  have hk0 : (0 : Int) ≤ (k : Int) := by omega
  rcases Nat.lt_or_ge k t.size with h1 | h1
  · have hkI : (k : Int) < (t.size : Int) := by omega
    have hkb : decide (t.size ≤ k) = false := decide_eq_false (by omega)
    have HF := Hid.mk' (fun (m m' : Nat) => ((h.drewN m).step h1).drewN m')
    have HG := Hid.mk' (fun (m m' : Nat) => ((h.drewN m).code 1).drewN m')
    clear h
    by_cases hx0 : (t[k]'h1) = 48
    · have HB := Hid.mk' (bitAt_zero h1 hx0)
      have hn : ((t[k]'h1).toNat : Int) = 48 := by rw [hx0]; rfl
      clear hx0
      go_enter Tryd.func71, Tryd.ntmps71
      go_wp2_with fail
      go_quiet (fail)
      go_wp2_with fail
      go_quiet (fail)
      go_wp2_with fail
      go_ret
      exact Or.inr ⟨0, HB.out, rfl, HF.out _ _⟩
    · by_cases hx1 : (t[k]'h1) = 49
      · have HB := Hid.mk' (bitAt_one h1 hx1)
        have hn : ((t[k]'h1).toNat : Int) = 49 := by rw [hx1]; rfl
        clear hx0 hx1
        go_enter Tryd.func71, Tryd.ntmps71
        go_wp2_with fail
        go_quiet (fail)
        go_wp2_with fail
        go_quiet (fail)
        go_wp2_with fail
        go_ret
        exact Or.inr ⟨1, HB.out, rfl, HF.out _ _⟩
      · have HB := Hid.mk' (bitAt_other h1 hx0 hx1)
        have hn1 : ¬ (((t[k]'h1).toNat : Int) = 48) := fun h => hx0 (UInt8.toNat_inj.1 (by show _ = 48; omega))
        have hn2 : ¬ (((t[k]'h1).toNat : Int) = 49) := fun h => hx1 (UInt8.toNat_inj.1 (by show _ = 49; omega))
        have hm1 : (((t[k]'h1).toNat : Int) != 48) = true := by rw [bne_iff_ne]; exact hn1
        have hm2 : (((t[k]'h1).toNat : Int) != 49) = true := by rw [bne_iff_ne]; exact hn2
        clear hx0 hx1 hn1 hn2
        go_enter Tryd.func71, Tryd.ntmps71
        go_wp2_with fail
        go_quiet (fail)
        go_wp2_with fail
        go_ret
        exact Or.inl ⟨HB.out, rfl, HG.out _ 0⟩
  · obtain rfl : k = t.size := Nat.le_antisymm h.le h1
    have HB := Hid.mk' (bitAt_end (Nat.le_refl t.size))
    have HG := Hid.mk' (fun (m m' : Nat) => ((h.drewN m).code 1).drewN m')
    clear h
    go_enter Tryd.func71, Tryd.ntmps71
    go_wp2_with fail
    go_quiet (fail)
    go_wp2_with fail
    go_ret
    exact Or.inl ⟨HB.out, rfl, HG.out _ 0⟩

set_option maxRecDepth 100000 in
theorem behind_bad (w0 : World) (t : ByteArray) (k c : Nat) (n m : Int) (w : World) (h : TAt w0 w t k c) (hc : 0 < c) (hc2 : c ≤ 8) :
    Calls Tryd.prog 70 #[.pointer (some ⟨w0.heap.size, 0, none⟩), .int .i64 n, .int .i64 m] w fun e w' => e = .returned (.int .i64 n) ∧ TAt w0 w' t k c := by
  have y2 := h.c2
  have HR := Hid.mk' h
  have hcI : ((c : Int) == 0) = false := by simp; omega
  clear h
  go_enter Tryd.func70, Tryd.ntmps70
  go_wp2_with fail
  refine wp_loop_rounds 1 ?_
  rw [rounds_succ]
  by_cases hm : 0 < m
  · go_wp2_with fail
    go_ret
    exact ⟨rfl, HR.out⟩
  · go_wp2_with fail
    go_ret
    exact ⟨rfl, HR.out⟩
set_option maxRecDepth 100000 in
set_option maxHeartbeats 1000000 in
theorem behind_any (w0 : World) (t : ByteArray) (k c : Nat) (w : World) (h : TAt w0 w t k 0) (ht : t.size ≤ 100000) (hc : c ≤ 30) :
    Calls Tryd.prog 70 #[.pointer (some ⟨w0.heap.size, 0, none⟩), .int .i64 1, .int .i64 (c : Int)] w fun e w' => TOut w0 w' t e (digR t c 1 k) := by
  have HBIT := Hid.mk' (fun W k (hW : TAt w0 W t k 0) => bitT_any w0 t k W hW ht)
  have HR := Hid.mk' h
  clear h
  go_enter Tryd.func70, Tryd.ntmps70
  go_wp2_with fail
  go_loopw [1, 7] (fun s i wr => ∃ j n k' d : Nat, j ≤ c ∧ s = .int .i64 (n : Int) ∧ i = .int .i64 (j : Int) ∧ n < 4294967296 ∧ ((d = 0 ∧ Hid (n < 2 ^ (j + 1)) ∧ Hid (digR t c 1 k = digR t (c - j) n k')) ∨ (d = 1 ∧ Hid (digR t c 1 k = .inl 1))) ∧ Hid (TAt w0 wr t k' d)) (fun _ i _ => c - (intOf i).toNat)
  case atStart => exact ⟨0, 1, k, 0, Nat.zero_le _, rfl, rfl, by decide, Or.inl ⟨rfl, (by decide : 1 < 2 ^ (0 + 1)), rfl⟩, HR.out⟩
  case round =>
    obtain ⟨j, n, k', d, hj, rfl, rfl, hn4, hd, HRR⟩ := hrel
    have y2 := HRR.out.c2
    rcases hd with ⟨rfl, HN, HD⟩ | ⟨rfl, HF⟩
    · rcases Nat.lt_or_ge j c with h1 | h1
      · have hjc : (j : Int) < (c : Int) := by omega
        have hn30 : n < 1073741824 := Nat.lt_of_lt_of_le HN.out (Nat.pow_le_pow_right (n := 2) (j := 30) (by decide) (by omega))
        go_wp2_with fail
        refine (HBIT.out _ _ HRR.out).mono ?_
        rintro e w1 (⟨hb, rfl, hr1⟩ | ⟨b, hb, rfl, hr1⟩)
        · have HF : Hid (digR t c 1 k = .inl 1) := by show _ = _; rw [HD.out, show c - j = (c - j - 1) + 1 by omega, digR_none hb]
          have HR1 := Hid.mk' hr1
          clear hb hr1
          go_wp2_with fail
          exact ⟨⟨j + 1, n * 2, k', 1, h1, by go_num, by go_num, by omega, Or.inr ⟨rfl, HF.out⟩, HR1.out⟩, by simp [intOf]; omega⟩
        · have hb1 := (bitAt_some hb).2
          have HF : Hid (digR t c 1 k = digR t (c - (j + 1)) (2 * n + b) (k' + 1)) := by show _ = _; rw [HD.out, show c - j = (c - (j + 1)) + 1 by omega, digR_some hb]
          have HR1 := Hid.mk' hr1
          have HN2 : Hid (2 * n + b < 2 ^ (j + 1 + 1)) := by have := HN.out; show _ < _; rw [Nat.pow_succ]; omega
          have hb2 : b ≤ 1 := by omega
          clear hb hr1 hb1
          go_wp2_with fail
          exact ⟨⟨j + 1, 2 * n + b, k' + 1, 0, h1, by go_num, by go_num, by omega, Or.inl ⟨rfl, HN2.out, HF.out⟩, HR1.out⟩, by simp [intOf]; omega⟩
      · obtain rfl : c = j := by omega
        have HF : Hid (digR t c 1 k = .inr (n, k')) := by show _ = _; rw [HD.out, Nat.sub_self]; rfl
        go_wp2_with fail
        go_ret
        rw [HF.out]
        exact ⟨rfl, HRR.out⟩
    · by_cases h1 : j < c
      · have hjc : (j : Int) < (c : Int) := by omega
        go_wp2_with fail
        go_ret
        rw [HF.out]
        exact ⟨n, k', hn4, rfl, HRR.out⟩
      · obtain rfl : c = j := by omega
        go_wp2_with fail
        go_ret
        rw [HF.out]
        exact ⟨n, k', hn4, rfl, HRR.out⟩

set_option maxRecDepth 100000 in
set_option maxHeartbeats 1000000 in
theorem gammaT_any (w0 : World) (t : ByteArray) (k : Nat) (w : World) (h : TAt w0 w t k 0) (ht : t.size ≤ 100000) :
    Calls Tryd.prog 69 #[.pointer (some ⟨w0.heap.size, 0, none⟩)] w fun e w' => TOut w0 w' t e (gamR t 31 0 k) := by
  have HBIT := Hid.mk' (fun W k (hW : TAt w0 W t k 0) => bitT_any w0 t k W hW ht)
  have HBEH := Hid.mk' (fun W k c (hW : TAt w0 W t k 0) (hc : c ≤ 30) => behind_any w0 t k c W hW ht hc)
  have HR := Hid.mk' h
  clear h
  go_enter Tryd.func69, Tryd.ntmps69
  go_wp2_with fail
  go_loopw [3] (fun i wr => ∃ j k' d : Nat, j ≤ 31 ∧ i = .int .i64 (j : Int) ∧ ((d = 0 ∧ j ≤ 30 ∧ Hid (gamR t 31 0 k = gamR t (31 - j) j k')) ∨ ((d = 1 ∨ d = 2) ∧ Hid (gamR t 31 0 k = .inl d))) ∧ Hid (TAt w0 wr t k' d)) (fun i _ => 31 - (intOf i).toNat)
  case atStart => exact ⟨0, k, 0, by decide, rfl, Or.inl ⟨rfl, by decide, rfl⟩, HR.out⟩
  case round =>
    obtain ⟨j, k', d, hj, rfl, hd, HRR⟩ := hrel
    rcases hd with ⟨rfl, hj30, HD⟩ | ⟨hd12, HF⟩
    · have y2 : wr.cell? ⟨w0.heap.size, 2, none⟩ = some (.int .i64 0) := HRR.out.c2
      go_wp2_with fail
      refine (HBIT.out _ _ HRR.out).mono ?_
      rintro e w1 (⟨hb, rfl, hr1⟩ | ⟨b, hb, rfl, hr1⟩)
      · have HF : Hid (gamR t 31 0 k = .inl 1) := by show _ = _; rw [HD.out, show 31 - j = (30 - j) + 1 by omega, gamR_none hb]
        have y3 : w1.cell? ⟨w0.heap.size, 2, none⟩ = some (.int .i64 1) := hr1.c2
        have HR1 := Hid.mk' hr1
        clear hb hr1 y2
        by_cases h30 : 30 < j + 1
        · have h30I : (30 : Int) < (j : Int) + 1 := by omega
          go_wp2_with fail
          exact ⟨⟨j + 1, k', 1, by omega, by go_num, Or.inr ⟨Or.inl rfl, HF.out⟩, HR1.out⟩, by simp [intOf]; omega⟩
        · have h30I : ¬ (30 : Int) < (j : Int) + 1 := by omega
          go_wp2_with fail
          exact ⟨⟨j + 1, k', 1, by omega, by go_num, Or.inr ⟨Or.inl rfl, HF.out⟩, HR1.out⟩, by simp [intOf]; omega⟩
      · have HR1 := Hid.mk' hr1
        have y3 : w1.cell? ⟨w0.heap.size, 2, none⟩ = some (.int .i64 0) := hr1.c2
        have y4 := hr1.f2
        rcases (bitAt_some hb).2 with rfl | rfl
        · have HF : Hid (gamR t 31 0 k = gamR t (30 - j) (j + 1) (k' + 1)) := by show _ = _; rw [HD.out, show 31 - j = (30 - j) + 1 by omega, gamR_zero hb]
          have HC := Hid.mk' (hr1.code 2)
          clear hb hr1 y2
          by_cases h30 : 30 < j + 1
          · obtain rfl : j = 30 := by omega
            go_wp2_with fail
            exact ⟨⟨31, k' + 1, 2, by omega, by go_num, Or.inr ⟨Or.inr rfl, HF.out⟩, HC.out⟩, by simp [intOf]⟩
          · have h30I : ¬ (30 : Int) < (j : Int) + 1 := by omega
            go_wp2_with fail
            exact ⟨⟨j + 1, k' + 1, 0, by omega, by go_num, Or.inl ⟨rfl, by omega, by rw [show 31 - (j + 1) = 30 - j by omega]; exact HF.out⟩, HR1.out⟩, by simp [intOf]; omega⟩
        · have HF : Hid (gamR t 31 0 k = digR t j 1 (k' + 1)) := by show _ = _; rw [HD.out, show 31 - j = (30 - j) + 1 by omega, gamR_one hb]
          clear hb hr1 y2
          go_wp2_with fail
          refine (HBEH.out _ _ _ HR1.out hj30).mono ?_
          rintro e w2 ho
          cases hdg : digR t j 1 (k' + 1) with
          | inl c =>
            rw [hdg] at ho
            obtain ⟨x, k2, hx, rfl, hr2⟩ := ho
            have HF2 : Hid (gamR t 31 0 k = .inl c) := by show _ = _; rw [HF.out, hdg]
            have HR2 := Hid.mk' hr2
            clear hdg HF hr2
            go_wp2_with fail
            go_ret
            rw [HF2.out]
            exact ⟨x, k2, hx, rfl, HR2.out⟩
          | inr p =>
            rw [hdg] at ho
            obtain ⟨rfl, hr2⟩ := ho
            have HF2 : Hid (gamR t 31 0 k = .inr p) := by show _ = _; rw [HF.out, hdg]
            have HR2 := Hid.mk' hr2
            clear hdg HF hr2
            go_wp2_with fail
            go_ret
            rw [HF2.out]
            exact ⟨rfl, HR2.out⟩
    · have y2 := HRR.out.c2
      have hdI : ((d : Int) == 0) = false := by simp; omega
      go_wp2_with fail
      go_ret
      rw [HF.out]
      exact ⟨0, k', by decide, rfl, HRR.out⟩
end Go.Proofs.YtjmjedpeibnnnaaDoor
