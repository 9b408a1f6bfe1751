/- The document's SearchError. -/
import Derived.Test.YtcigmihfannmjabDoorSearchE
namespace Go.Proofs.YtcigmihfannmjabDoor
open Go.RowKit

/-- Some number is too great, among the first i gaps and keys. -/
def greatB (ks gs : Nat → Int) (n i : Nat) : Bool := bgB gs i || bgB ks (min i n)
theorem greatB_next (ks gs : Nat → Int) (n i : Nat) : greatB ks gs n (i + 1) = ((greatB ks gs n i || decide (4096 < gs i)) || (decide (i < n) && decide (4096 < ks i))) := by
  unfold greatB
  by_cases h : i < n
  · rw [show min (i + 1) n = min i n + 1 by omega, show min i n = i by omega, bgB, bgB, decide_eq_true h]
    cases bgB gs i <;> cases bgB ks i <;> cases decide (4096 < gs i) <;> cases decide (4096 < ks i) <;> rfl
  · rw [show min (i + 1) n = min i n by omega, bgB, decide_eq_false h]
    cases bgB gs i <;> cases bgB ks (min i n) <;> cases decide (4096 < gs i) <;> rfl
theorem ret_nat3 {a b : Nat} (h : b = a) : Ending.returned (.int .i64 (a : Int)) = .returned (.int .i64 (b : Int)) := by rw [h]
set_option maxRecDepth 100000 in
set_option maxHeartbeats 2000000 in
theorem SearchError_any (v u : Value) (n m : Nat) (ks gs : Nat → Int) (w : World) (h : NumsAt w v n ks) (k : NumsAt w u m gs) (hn : n ≤ 1000000) (hm : m ≤ 1000000) :
    Calls Tryd.prog 17 #[v, u] w fun e w' => e = .returned (.int .i64 (seErr n m ks gs : Nat)) ∧ w' = w := by
  by_cases h16 : 16 < n
  · have HS : Hid (seErr n m ks gs = 2) := by show _ = _; unfold seErr; rw [if_pos h16]
    obtain ⟨ad, cap, rfl⟩ := h.form
    clear h k
    go_enter Tryd.func17, Tryd.ntmps17
    go_wp2_with fail
    go_ret
    exact ⟨ret_nat3 HS.out, rfl⟩
  · have h16' : n ≤ 16 := by omega
    by_cases h2 : n = 0 ∨ m ≠ n + 1
    · have HS : Hid (seErr n m ks gs = 3) := by show _ = _; unfold seErr; rw [if_neg h16, if_pos h2]
      clear h16
      obtain ⟨ad, cap, rfl⟩ := h.form
      obtain ⟨ad', cap', rfl⟩ := k.form
      clear h k
      by_cases h0 : n = 0
      · subst h0
        go_enter Tryd.func17, Tryd.ntmps17
        go_wp2_with fail
        go_ret
        exact ⟨ret_nat3 HS.out, rfl⟩
      · have hb0 : ((n : Int) == 0) = false := by rw [beq_eq_false_iff_ne]; omega
        have hb1 : ((m : Int) != (n : Int) + 1) = true := by rw [bne_iff_ne]; omega
        clear h2
        go_enter Tryd.func17, Tryd.ntmps17
        go_wp2_with fail
        go_ret
        exact ⟨ret_nat3 HS.out, rfl⟩
    · have HS : Hid (seErr n m ks gs = if ngB ks n = true ∨ ngB gs m = true then 3 else if bgB ks n = true ∨ bgB gs m = true then 2 else 0) := by show _ = _; unfold seErr; rw [if_neg h16, if_neg h2]
      clear h16
      have hn0 : 0 < n := by omega
      obtain rfl : m = n + 1 := by omega
      have hb0 : ((n : Int) == 0) = false := by rw [beq_eq_false_iff_ne]; omega
      clear h2
      rcases h with ⟨_, _, _, h'⟩ | ⟨b, o, cap, rfl, _, hr⟩
      · omega
      rcases k with ⟨_, _, _, h'⟩ | ⟨b', o', cap', rfl, _, hr'⟩
      · omega
      have HR := Hid.mk' hr
      have HR' := Hid.mk' hr'
      clear hr hr'
      have HNG : Hid (∀ i, i < n + 1 → gs i < 0 ∨ (i < n ∧ ks i < 0) → seErr n (n + 1) ks gs = 3) := fun i hi hb => by
        rw [HS.out]
        refine if_pos ?_
        rcases hb with hb | ⟨hin, hb⟩
        · right
          cases hq : ngB gs (n + 1) with
          | true => rfl
          | false => have := ngB_no.1 hq i hi; omega
        · left
          cases hq : ngB ks n with
          | true => rfl
          | false => have := ngB_no.1 hq i hin; omega
      go_enter Tryd.func17, Tryd.ntmps17
      go_wp2_with fail
      go_loop [5, 6] (fun s t => ∃ i : Nat, i ≤ n + 1 ∧ t = .int .i64 i ∧ s = .bool (greatB ks gs n i) ∧ Hid (ngB gs i = false ∧ ngB ks (min i n) = false)) (fun _ t => n + 1 - (intOf t).toNat)
      case atStart => exact ⟨0, Nat.zero_le _, rfl, rfl, ⟨rfl, rfl⟩⟩
      case round =>
        obtain ⟨i, hi, rfl, rfl, HN⟩ := hrel
        rcases Nat.lt_or_ge i (n + 1) with h1 | h1
        · have hiI : (i : Int) < (n : Int) + 1 := by omega
          have hi0 : (0 : Int) ≤ (i : Int) := by omega
          have y0 := HR'.out i h1
          have HNX := Hid.mk' (greatB_next ks gs n i)
          have HNI := HNG.out i h1
          by_cases g1 : gs i < 0
          · have HRS := Hid.mk' (HNI (Or.inl g1))
            clear HNI
            generalize greatB ks gs n i = G at *
            generalize gs i = q at *
            go_wp2_with fail
            go_ret
            exact ⟨ret_nat3 HRS.out, rfl⟩
          · have g1' : 0 ≤ gs i := by omega
            by_cases hin : i < n
            · have hinI : (i : Int) < (n : Int) := by omega
              have y1 := HR.out i hin
              by_cases g2 : ks i < 0
              · have HRS := Hid.mk' (HNI (Or.inr ⟨hin, g2⟩))
                clear HNI g1
                generalize greatB ks gs n i = G at *
                generalize gs i = q at *
                generalize ks i = p at *
                go_wp2_with fail
                go_ret
                exact ⟨ret_nat3 HRS.out, rfl⟩
              · have g2' : 0 ≤ ks i := by omega
                have HN2 : Hid (ngB gs (i + 1) = false ∧ ngB ks (min (i + 1) n) = false) := ⟨by rw [ngB, HN.out.1]; simp; omega, by
                  have := HN.out.2
                  rw [show min i n = i by omega] at this
                  rw [show min (i + 1) n = i + 1 by omega, ngB, this]; simp; omega⟩
                rw [decide_eq_true hin] at HNX
                clear HNI g1 g2
                cases hG : greatB ks gs n i with
                | true =>
                  rw [hG] at HNX
                  clear hG
                  rw [Bool.true_or, Bool.true_or] at HNX
                  generalize gs i = q at *
                  generalize ks i = p at *
                  go_wp2_with fail
                  exact ⟨⟨i + 1, by omega, by go_num, by rw [HNX.out] <;> (try simp) <;> (try omega), HN2⟩, by simp [intOf] <;> omega⟩
                | false =>
                  rw [hG] at HNX
                  clear hG
                  by_cases g3 : 4096 < gs i
                  · rw [decide_eq_true g3] at HNX
                    generalize gs i = q at *
                    generalize ks i = p at *
                    go_wp2_with fail
                    exact ⟨⟨i + 1, by omega, by go_num, by rw [HNX.out] <;> (try simp) <;> (try omega), HN2⟩, by simp [intOf] <;> omega⟩
                  · have g3' : gs i ≤ 4096 := by omega
                    rw [decide_eq_false g3] at HNX
                    clear g3
                    by_cases g4 : 4096 < ks i
                    · rw [decide_eq_true g4] at HNX
                      generalize gs i = q at *
                      generalize ks i = p at *
                      go_wp2_with fail
                      exact ⟨⟨i + 1, by omega, by go_num, by rw [HNX.out] <;> (try simp) <;> (try omega), HN2⟩, by simp [intOf] <;> omega⟩
                    · have g4' : ks i ≤ 4096 := by omega
                      rw [decide_eq_false g4] at HNX
                      clear g4
                      generalize gs i = q at *
                      generalize ks i = p at *
                      go_wp2_with fail
                      exact ⟨⟨i + 1, by omega, by go_num, by rw [HNX.out] <;> (try simp) <;> (try omega), HN2⟩, by simp [intOf] <;> omega⟩

            · obtain rfl : i = n := by omega
              have HN2 : Hid (ngB gs (i + 1) = false ∧ ngB ks (min (i + 1) i) = false) := ⟨by rw [ngB, HN.out.1]; simp; omega, by
                have := HN.out.2
                rw [show min i i = i by omega] at this
                rw [show min (i + 1) i = i by omega]; exact this⟩
              rw [decide_eq_false hin] at HNX
              clear HNI g1 hin
              cases hG : greatB ks gs i i with
              | true =>
                rw [hG] at HNX
                clear hG
                rw [Bool.true_or, Bool.true_or] at HNX
                generalize gs i = q at *
                go_wp2_with fail
                exact ⟨⟨i + 1, by omega, by go_num, by rw [HNX.out] <;> (try simp) <;> (try omega), HN2⟩, by simp [intOf] <;> omega⟩
              | false =>
                rw [hG] at HNX
                clear hG
                by_cases g3 : 4096 < gs i
                · rw [decide_eq_true g3] at HNX
                  generalize gs i = q at *
                  go_wp2_with fail
                  exact ⟨⟨i + 1, by omega, by go_num, by rw [HNX.out] <;> (try simp) <;> (try omega), HN2⟩, by simp [intOf] <;> omega⟩
                · have g3' : gs i ≤ 4096 := by omega
                  rw [decide_eq_false g3] at HNX
                  clear g3
                  generalize gs i = q at *
                  go_wp2_with fail
                  exact ⟨⟨i + 1, by omega, by go_num, by rw [HNX.out] <;> (try simp) <;> (try omega), HN2⟩, by simp [intOf] <;> omega⟩

        · obtain rfl : i = n + 1 := by omega
          have HRS : Hid (greatB ks gs n (n + 1) = true → seErr n (n + 1) ks gs = 2) := fun hG => by
            rw [HS.out]
            have h3 := HN.out
            rw [show min (n + 1) n = n by omega] at h3
            rw [if_neg (by simp [h3.1, h3.2]), if_pos]
            unfold greatB at hG
            rw [show min (n + 1) n = n by omega] at hG
            simpa [or_comm] using hG
          have HRZ : Hid (greatB ks gs n (n + 1) = false → seErr n (n + 1) ks gs = 0) := fun hG => by
            rw [HS.out]
            have h3 := HN.out
            rw [show min (n + 1) n = n by omega] at h3
            rw [if_neg (by simp [h3.1, h3.2]), if_neg]
            unfold greatB at hG
            rw [show min (n + 1) n = n by omega] at hG
            simp at hG
            simp [hG.1, hG.2]
          have hiE : ((n + 1 : Nat) : Int) = (n : Int) + 1 := by omega
          rw [hiE]
          clear hiE
          cases hG : greatB ks gs n (n + 1) with
          | true =>
            have HR3 := Hid.mk' (HRS.out hG)
            clear hG HRS HRZ
            go_wp2_with fail
            go_ret
            exact ⟨ret_nat3 HR3.out, rfl⟩
          | false =>
            have HR3 := Hid.mk' (HRZ.out hG)
            clear hG HRS HRZ
            go_wp2_with fail
            go_ret
            exact ⟨ret_nat3 HR3.out, rfl⟩
end Go.Proofs.YtcigmihfannmjabDoor
