/- The document reads a word. -/
import Derived.Test.YtjmjedpeibnnnaaDoorTaker
import Derived.Deep.LoopGhost
namespace Go.Proofs.YtjmjedpeibnnnaaDoor
open Go.RowKit

set_option maxRecDepth 100000 in
theorem TakeWord_long (t : ByteArray) (i : Nat) (w : World) (ht : 4000 < t.size) (ht2 : t.size ≤ 9223372036854775807) :
    Calls Tryd.prog 34 #[.int .i64 (i : Int), .string t] w fun e w' => e = .returned (.tuple #[.int .i64 ((readE t i).1 : Int), .int .i64 ((readE t i).2.1 : Int), .int .i64 ((readE t i).2.2 : Int)]) ∧ Below w.heap.size w w' := by
  have HV : Hid (readE t i = (0, 0, 2)) := by show _ = _; unfold readE; rw [if_pos ht]
  have htI : (4000 : Int) < (t.size : Int) := by omega
  go_enter Tryd.func34, Tryd.ntmps34
  go_wp2_with fail
  go_ret3
  exact ⟨by rw [HV.out]; rfl, Below.refl _ _⟩
theorem fresh_taker (w : World) (t : ByteArray) : TAt w (w.alloc (.cells #[.string t, .int .i64 0, .int .i64 0] 99)) t 0 0 := ⟨(Below.refl _ _).alloc (Nat.le_refl _) _, by simp, by simp, by simp, by simp, by simp, Nat.zero_le _⟩
set_option maxRecDepth 100000 in
set_option maxHeartbeats 1000000 in
theorem TakeWord_gamma (t : ByteArray) (w : World) (ht : t.size ≤ 4000) :
    Calls Tryd.prog 34 #[.int .i64 0, .string t] w fun e w' => e = .returned (.tuple #[.int .i64 ((readE t 0).1 : Int), .int .i64 ((readE t 0).2.1 : Int), .int .i64 ((readE t 0).2.2 : Int)]) ∧ Below w.heap.size w w' := by
  have hG := gammaT_any w t 0 _ (fresh_taker w t) (by omega)
  have htI : ¬ (4000 : Int) < (t.size : Int) := by omega
  go_enter Tryd.func34, Tryd.ntmps34
  go_wp2_with fail
  refine hG.mono ?_
  clear hG
  rintro e w2 ho
  cases hr : gamR t 31 0 0 with
  | inl c =>
    rw [hr] at ho
    obtain ⟨x, k2, hx, rfl, hr2⟩ := ho
    have hc12 := gamR_err hr
    have HR2 := Hid.mk' hr2
    clear hr2
    have z2 := HR2.out.c2
    have hcI : ((c : Int) == 0) = false := by simp; omega
    have hcP : (0 : Int) < (c : Int) := by omega
    have HV : Hid (readE t 0 = (0, 0, c)) := by show _ = _; unfold readE; rw [if_neg (by omega)]; show finR (gamR t 31 0 0) = _; rw [hr]; rfl
    (try clear hc)
    (try clear hc12)
    go_wp2_with fail
    go_quiet (fail)
    go_wp2_with fail
    go_ret3
    exact ⟨by rw [HV.out]; rfl, (HR2.out.drewN _).below⟩
  | inr p =>
    obtain ⟨n, k2⟩ := p
    rw [hr] at ho
    obtain ⟨rfl, hr2⟩ := ho
    have hn31 := gamR_le' hr
    have HR2 := Hid.mk' hr2
    clear hr2
    have z1 := HR2.out.c1
    have z2 : w2.cell? ⟨w.heap.size, 2, none⟩ = some (.int .i64 0) := HR2.out.c2
    have z3 := HR2.out.f2
    by_cases hg : 1000000000 < n
    · have HV : Hid (readE t 0 = (0, 0, 2)) := by show _ = _; unfold readE; rw [if_neg (by omega)]; show finR (gamR t 31 0 0) = _; rw [hr, finR_great hg]
      have hgI : (1000000000 : Int) < (n : Int) := by omega
      have HC := Hid.mk' (HR2.out.code 2)
      have z4 : (w2.setCell ⟨w.heap.size, 2, none⟩ (.int .i64 2)).cell? ⟨w.heap.size, 2, none⟩ = some (.int .i64 2) := HC.out.c2
      go_wp2_with fail
      go_quiet (fail)
      go_wp2_with fail
      go_ret3
      exact ⟨by rw [HV.out]; rfl, (HC.out.drewN _).below⟩
    · have HV : Hid (readE t 0 = (n, k2, 0)) := by show _ = _; unfold readE; rw [if_neg (by omega)]; show finR (gamR t 31 0 0) = _; rw [hr, finR_ok hg]
      have hgI : ¬ (1000000000 : Int) < (n : Int) := by omega
      go_wp2_with fail
      go_quiet (fail)
      go_wp2_with fail
      go_ret3
      exact ⟨by rw [HV.out]; rfl, (HR2.out.drewN _).below⟩

set_option maxRecDepth 100000 in
set_option maxHeartbeats 1000000 in
theorem TakeWord_delta (t : ByteArray) (w : World) (ht : t.size ≤ 4000) :
    Calls Tryd.prog 34 #[.int .i64 1, .string t] w fun e w' => e = .returned (.tuple #[.int .i64 ((readE t 1).1 : Int), .int .i64 ((readE t 1).2.1 : Int), .int .i64 ((readE t 1).2.2 : Int)]) ∧ Below w.heap.size w w' := by
  have hG := gammaT_any w t 0 _ (fresh_taker w t) (by omega)
  have HBEH := Hid.mk' (fun W k c (hW : TAt w W t k 0) (hc : c ≤ 30) => behind_any w t k c W hW (by omega) hc)
  have HBAD := Hid.mk' (fun W k c (m : Int) (hW : TAt w W t k c) (hc : 0 < c) (hc8 : c ≤ 8) => behind_bad w t k c 1 m W hW hc hc8)
  have htI : ¬ (4000 : Int) < (t.size : Int) := by omega
  go_enter Tryd.func34, Tryd.ntmps34
  go_wp2_with fail
  refine hG.mono ?_
  clear hG
  rintro e w1 ho
  cases hr : gamR t 31 0 0 with
  | inl c =>
    rw [hr] at ho
    obtain ⟨x, k2, hx, rfl, hr2⟩ := ho
    have hc12 := gamR_err hr
    have hd := delR_bad hr
    have HR1 := Hid.mk' hr2
    have y2 := hr2.c2
    have hcI : ((c : Int) == 0) = false := by simp; omega
    clear hr2 hr
    go_wp2_with fail
    refine (HBAD.out _ _ _ _ HR1.out (by omega) (by omega)).mono ?_
    rintro e w2 ⟨rfl, hr2⟩
    have HR2 := Hid.mk' hr2
    clear hr2 y2 HR1 hcI
    have z2 := HR2.out.c2
    have hcI : ((c : Int) == 0) = false := by simp; omega
    have hcP : (0 : Int) < (c : Int) := by omega
    have HV : Hid (readE t 1 = (0, 0, c)) := by show _ = _; unfold readE; rw [if_neg (by omega)]; show finR (delR t 0) = _; rw [hd]; rfl
    (try clear hc)
    (try clear hc12)
    go_wp2_with fail
    go_quiet (fail)
    go_wp2_with fail
    go_ret3
    exact ⟨by rw [HV.out]; rfl, (HR2.out.drewN _).below⟩
  | inr p =>
    obtain ⟨m, k1⟩ := p
    rw [hr] at ho
    obtain ⟨rfl, hr2⟩ := ho
    have hm31 := gamR_le hr (Nat.zero_le _) (by decide)
    have hm3 : m < 2147483648 := hm31.2.1
    have hm0 := hm31.1
    have HR1 := Hid.mk' hr2
    have y2 : w1.cell? ⟨w.heap.size, 2, none⟩ = some (.int .i64 0) := hr2.c2
    have y3 := hr2.f2
    clear hm31
    by_cases hm30 : 30 < m
    · have hd := delR_great hr hm30
      have hmI : (30 : Int) < (m : Int) := by omega
      have HC := Hid.mk' (hr2.code 2)
      have HB2 := Hid.mk' (HBAD.out _ _ _ ((m : Int) - 1) HC.out (by decide) (by decide))
      clear hr2 hr
      go_wp2_with fail
      refine HB2.out.mono ?_
      rintro e w2 ⟨rfl, hr2⟩
      obtain ⟨c, hc⟩ : ∃ c, c = 2 := ⟨_, rfl⟩
      rw [← hc] at hr2 hd
      have HR2 := Hid.mk' hr2
      clear hr2 y2 y3 HR1 HB2 HC
      have z2 := HR2.out.c2
      have hcI : ((c : Int) == 0) = false := by simp; omega
      have hcP : (0 : Int) < (c : Int) := by omega
      have HV : Hid (readE t 1 = (0, 0, c)) := by show _ = _; unfold readE; rw [if_neg (by omega)]; show finR (delR t 0) = _; rw [hd]; rfl
      (try clear hc)
      (try clear hc12)
      go_wp2_with fail
      go_quiet (fail)
      go_wp2_with fail
      go_ret3
      exact ⟨by rw [HV.out]; rfl, (HR2.out.drewN _).below⟩
    · have hd := delR_ok hr hm30
      have hmI : ¬ (30 : Int) < (m : Int) := by omega
      have HB2 := Hid.mk' (HBEH.out _ _ (m - 1) HR1.out (by omega))
      rw [show ((m - 1 : Nat) : Int) = (m : Int) - 1 by omega] at HB2
      clear hr2
      go_wp2_with fail
      refine HB2.out.mono ?_
      rintro e w2 ho
      have hk1 := HR1.out.le
      cases hg : digR t (m - 1) 1 k1 with
      | inl c =>
        rw [hg] at ho
        obtain ⟨x, k2, hx, rfl, hr2⟩ := ho
        have hc12 := digR_err hg
        rw [hg] at hd
        have HR2 := Hid.mk' hr2
        clear hr2 y2 y3 HR1 HB2 hg hr
        have z2 := HR2.out.c2
        have hcI : ((c : Int) == 0) = false := by simp; omega
        have hcP : (0 : Int) < (c : Int) := by omega
        have HV : Hid (readE t 1 = (0, 0, c)) := by show _ = _; unfold readE; rw [if_neg (by omega)]; show finR (delR t 0) = _; rw [hd]; rfl
        (try clear hc)
        (try clear hc12)
        go_wp2_with fail
        go_quiet (fail)
        go_wp2_with fail
        go_ret3
        exact ⟨by rw [HV.out]; rfl, (HR2.out.drewN _).below⟩
      | inr p =>
        obtain ⟨n, k2⟩ := p
        rw [hg] at ho
        obtain ⟨rfl, hr2⟩ := ho
        have hn31 := (digR_room (by omega) hk1 hg).2.1
        rw [hg] at hd
        have HR2 := Hid.mk' hr2
        clear hr2 y2 y3 HR1 HB2 hg hr
        have z1 := HR2.out.c1
        have z2 : w2.cell? ⟨w.heap.size, 2, none⟩ = some (.int .i64 0) := HR2.out.c2
        have z3 := HR2.out.f2
        by_cases hg : 1000000000 < n
        · have HV : Hid (readE t 1 = (0, 0, 2)) := by show _ = _; unfold readE; rw [if_neg (by omega)]; show finR (delR t 0) = _; rw [hd, finR_great hg]
          have hgI : (1000000000 : Int) < (n : Int) := by omega
          have HC := Hid.mk' (HR2.out.code 2)
          have z4 : (w2.setCell ⟨w.heap.size, 2, none⟩ (.int .i64 2)).cell? ⟨w.heap.size, 2, none⟩ = some (.int .i64 2) := HC.out.c2
          go_wp2_with fail
          go_quiet (fail)
          go_wp2_with fail
          go_ret3
          exact ⟨by rw [HV.out]; rfl, (HC.out.drewN _).below⟩
        · have HV : Hid (readE t 1 = (n, k2, 0)) := by show _ = _; unfold readE; rw [if_neg (by omega)]; show finR (delR t 0) = _; rw [hd, finR_ok hg]
          have hgI : ¬ (1000000000 : Int) < (n : Int) := by omega
          go_wp2_with fail
          go_quiet (fail)
          go_wp2_with fail
          go_ret3
          exact ⟨by rw [HV.out]; rfl, (HR2.out.drewN _).below⟩

set_option maxRecDepth 100000 in
set_option maxHeartbeats 1000000 in
theorem TakeWord_omega (t : ByteArray) (w : World) (ht : t.size ≤ 4000) :
    Calls Tryd.prog 34 #[.int .i64 2, .string t] w fun e w' => e = .returned (.tuple #[.int .i64 ((readE t 2).1 : Int), .int .i64 ((readE t 2).2.1 : Int), .int .i64 ((readE t 2).2.2 : Int)]) ∧ Below w.heap.size w w' := by
  have HBIT := Hid.mk' (fun W k (hW : TAt w W t k 0) => bitT_any w t k W hW (by omega))
  have HBBAD := Hid.mk' (fun W k c (hW : TAt w W t k c) (hc : 0 < c) (hc8 : c ≤ 8) => bitT_bad w t k c W hW hc hc8)
  have HBEH := Hid.mk' (fun W k c (hW : TAt w W t k 0) (hc : c ≤ 30) => behind_any w t k c W hW (by omega) hc)
  have HR0 := Hid.mk' (fresh_taker w t)
  have htI : ¬ (4000 : Int) < (t.size : Int) := by omega
  go_enter Tryd.func34, Tryd.ntmps34
  go_wp2_with fail
  go_loopg [8] (t.size + 1) (fun gk s wr => ∃ n k' d f : Nat, s = .int .i64 (n : Int) ∧ n < 4294967296 ∧ ((d = 0 ∧ gk = t.size - k' + 1 ∧ n < 2147483648 ∧ Hid (t.size ≤ k' + f) ∧ Hid (omR t t.size 1 0 = omR t f n k')) ∨ (d = 1 ∧ gk = 0 ∧ Hid (omR t t.size 1 0 = .inl 1))) ∧ Hid (TAt w wr t k' d))
  case atStart => exact ⟨1, 0, 0, t.size, rfl, by decide, Or.inl ⟨rfl, rfl, by decide, (by simp : t.size ≤ 0 + t.size), rfl⟩, HR0.out⟩
  case round =>
    obtain ⟨n, k', d, f, rfl, hn4, hd, HRR⟩ := hrel
    rcases hd with ⟨rfl, hgk, hn31, HFU, HD⟩ | ⟨rfl, hgk, HF⟩
    · go_wp2_with fail
      refine (HBIT.out _ _ HRR.out).mono ?_
      rintro e w1 (⟨hb, rfl, hr1⟩ | ⟨b, hb, rfl, hr1⟩)
      · obtain ⟨c, hc⟩ : ∃ c, c = 1 := ⟨_, rfl⟩
        have hd : omR t t.size 1 0 = .inl c := by rw [hc, HD.out, omR_none hb]
        rw [← hc] at hr1
        have HR1 := Hid.mk' hr1
        clear hb hr1 HRR
        have z2 := HR1.out.c2
        have hcI : ((c : Int) == 0) = false := by simp; omega
        have hcP : (0 : Int) < (c : Int) := by omega
        have HV : Hid (readE t 2 = (0, 0, c)) := by show _ = _; unfold readE; rw [if_neg (by omega)]; show finR (omR t t.size 1 0) = _; rw [hd]; rfl
        (try clear hc)
        (try clear hc12)
        go_wp2_with fail
        go_quiet (fail)
        go_wp2_with fail
        go_ret3
        exact ⟨by rw [HV.out]; rfl, (HR1.out.drewN _).below⟩
      · obtain ⟨hlt, hb01⟩ := bitAt_some hb
        obtain ⟨g, hg⟩ : ∃ g, f = g + 1 := ⟨f - 1, by have := HFU.out; omega⟩
        subst hg
        have HR1 := Hid.mk' hr1
        rcases hb01 with rfl | rfl
        · have hd : omR t t.size 1 0 = .inr (n, k' + 1) := by rw [HD.out, omR_zero hb]
          obtain ⟨k2, hk2⟩ : ∃ k2, k2 = k' + 1 := ⟨_, rfl⟩
          rw [← hk2] at hd HR1
          clear hb hr1 HRR hk2
          have z1 := HR1.out.c1
          have z2 : w1.cell? ⟨w.heap.size, 2, none⟩ = some (.int .i64 0) := HR1.out.c2
          have z3 := HR1.out.f2
          by_cases hg : 1000000000 < n
          · have HV : Hid (readE t 2 = (0, 0, 2)) := by show _ = _; unfold readE; rw [if_neg (by omega)]; show finR (omR t t.size 1 0) = _; rw [hd, finR_great hg]
            have hgI : (1000000000 : Int) < (n : Int) := by omega
            have HC := Hid.mk' (HR1.out.code 2)
            have z4 : (w1.setCell ⟨w.heap.size, 2, none⟩ (.int .i64 2)).cell? ⟨w.heap.size, 2, none⟩ = some (.int .i64 2) := HC.out.c2
            go_wp2_with fail
            go_quiet (fail)
            go_wp2_with fail
            go_ret3
            exact ⟨by rw [HV.out]; rfl, (HC.out.drewN _).below⟩
          · have HV : Hid (readE t 2 = (n, k2, 0)) := by show _ = _; unfold readE; rw [if_neg (by omega)]; show finR (omR t t.size 1 0) = _; rw [hd, finR_ok hg]
            have hgI : ¬ (1000000000 : Int) < (n : Int) := by omega
            go_wp2_with fail
            go_quiet (fail)
            go_wp2_with fail
            go_ret3
            exact ⟨by rw [HV.out]; rfl, (HR1.out.drewN _).below⟩
        · by_cases h30 : 30 ≤ n
          · obtain ⟨c, hc⟩ : ∃ c, c = 2 := ⟨_, rfl⟩
            have hd : omR t t.size 1 0 = .inl c := by rw [hc, HD.out, omR_great hb h30]
            have hnI : (30 : Int) ≤ (n : Int) := by omega
            have HC := Hid.mk' (hr1.code c)
            have y2 := hr1.c2
            have y3 := hr1.f2
            have HCW : Hid (w1.setCell ⟨w.heap.size, 2, none⟩ (.int .i64 (c : Int)) = w1.setCell ⟨w.heap.size, 2, none⟩ (.int .i64 2)) := by show _ = _; rw [hc]; rfl
            rw [HCW.out] at HC
            clear hb hr1 HRR HCW
            have z2 := HC.out.c2
            have hcI : ((c : Int) == 0) = false := by simp; omega
            have hcP : (0 : Int) < (c : Int) := by omega
            have HV : Hid (readE t 2 = (0, 0, c)) := by show _ = _; unfold readE; rw [if_neg (by omega)]; show finR (omR t t.size 1 0) = _; rw [hd]; rfl
            (try clear hc)
            (try clear hc12)
            go_wp2_with fail
            go_quiet (fail)
            go_wp2_with fail
            go_ret3
            exact ⟨by rw [HV.out]; rfl, (HC.out.drewN _).below⟩
          · have HF := Hid.mk' (fun (e : Nat) => omR_bad (f := g) (e := e) hb h30)
            have HF2 := Hid.mk' (fun (n' k2 : Nat) => omR_next (f := g) (n' := n') (k' := k2) hb h30)
            have hnI : ¬ (30 : Int) ≤ (n : Int) := by omega
            clear hb hr1
            go_wp2_with fail
            refine (HBEH.out _ _ _ HR1.out (by omega)).mono ?_
            rintro e w2 ho
            cases hdg : digR t n 1 (k' + 1) with
            | inl c =>
              rw [hdg] at ho
              obtain ⟨x, k2, hx, rfl, hr2⟩ := ho
              have hc1 := digR_err hdg
              have HF3 : Hid (omR t t.size 1 0 = .inl c) := by show _ = _; rw [HD.out, HF.out c hdg]
              subst hc1
              have HR2 := Hid.mk' hr2
              clear hdg HF HF2 hr2
              go_wp2_with fail
              go_roundg 0
              case measure => omega
              case rel => exact ⟨x, k2, 1, 0, rfl, hx, Or.inr ⟨rfl, rfl, HF3.out⟩, HR2.out⟩
            | inr p =>
              obtain ⟨n', k2⟩ := p
              rw [hdg] at ho
              obtain ⟨rfl, hr2⟩ := ho
              have HF3 : Hid (omR t t.size 1 0 = omR t g n' k2) := by show _ = _; rw [HD.out, HF2.out n' k2 hdg]
              obtain ⟨q1, q2, q3, q4⟩ := digR_room (by omega) hlt hdg
              have HR2 := Hid.mk' hr2
              clear hdg HF HF2 hr2
              go_wp2_with fail
              go_roundg (t.size - k2 + 1)
              case measure => omega
              case rel => exact ⟨n', k2, 0, g, rfl, by omega, Or.inl ⟨rfl, rfl, q2, (by have := HFU.out; omega : t.size ≤ k2 + g), HF3.out⟩, HR2.out⟩
    · obtain ⟨c, hc⟩ : ∃ c, c = 1 := ⟨_, rfl⟩
      have hd : omR t t.size 1 0 = .inl c := by rw [hc]; exact HF.out
      have HRR : Hid (TAt w wr t k' c) := by rw [hc]; exact HRR.out
      go_wp2_with fail
      refine (HBBAD.out _ _ _ HRR.out (by omega) (by omega)).mono ?_
      rintro e w1 ⟨rfl, hr1⟩
      have HR1 := Hid.mk' hr1
      clear hr1 HRR HF
      have z2 := HR1.out.c2
      have hcI : ((c : Int) == 0) = false := by simp; omega
      have hcP : (0 : Int) < (c : Int) := by omega
      have HV : Hid (readE t 2 = (0, 0, c)) := by show _ = _; unfold readE; rw [if_neg (by omega)]; show finR (omR t t.size 1 0) = _; rw [hd]; rfl
      (try clear hc)
      (try clear hc12)
      go_wp2_with fail
      go_quiet (fail)
      go_wp2_with fail
      go_ret3
      exact ⟨by rw [HV.out]; rfl, (HR1.out.drewN _).below⟩
theorem TakeWord_any (t : ByteArray) (i : Nat) (hi : i < 3) (w : World) (ht : t.size ≤ 9223372036854775807) :
    Calls Tryd.prog 34 #[.int .i64 (i : Int), .string t] w fun e w' => e = .returned (.tuple #[.int .i64 ((readE t i).1 : Int), .int .i64 ((readE t i).2.1 : Int), .int .i64 ((readE t i).2.2 : Int)]) ∧ Below w.heap.size w w' := by
  by_cases h : 4000 < t.size
  · exact TakeWord_long t i w h ht
  · rcases (show i = 0 ∨ i = 1 ∨ i = 2 by omega) with rfl | rfl | rfl
    · exact TakeWord_gamma t w (by omega)
    · exact TakeWord_delta t w (by omega)
    · exact TakeWord_omega t w (by omega)
end Go.Proofs.YtjmjedpeibnnnaaDoor
