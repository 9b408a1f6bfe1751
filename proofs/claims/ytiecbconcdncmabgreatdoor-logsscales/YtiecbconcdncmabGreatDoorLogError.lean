/- The document's LogError, own and short. -/
import Derived.Test.YtiecbconcdncmabGreatDoorValid
namespace Go.Proofs.YtiecbconcdncmabGreatDoor
open Go.RowKit

set_option maxHeartbeats 1000000 in
theorem LogError_terms (den : Int) (b o n cap : Nat) (p c : Nat → Int) (ok : Bool) (hok : ok = true ↔ OkLog den n p c) (w : World) (ht : TermsAt w b o n p c) (hn : n ≤ 1000000) :
    Calls Tryz.prog 8 #[.agg #[.int .i64 den, .slice (some ⟨b, o, none⟩) n cap]] w fun e w' => e = .returned (.int .i64 (shapeCode ok)) ∧ Below w.heap.size w w' := by
  have HOK : Hid (ok = true ↔ OkLog den n p c) := hok
  have HT : Hid (TermsAt w b o n p c) := ht
  clear hok ht
  by_cases h1 : 1 ≤ den
  · by_cases h2 : den ≤ 1000000
    · have HB0 : Hid (Below w.heap.size w (w.alloc (.cells #[.int .i64 den, .slice (some ⟨b, o, none⟩) n cap] 24))) := (Below.refl _ _).alloc (Nat.le_refl _) _
      have hL0 : Hid ((w.alloc (.cells #[.int .i64 den, .slice (some ⟨b, o, none⟩) n cap] 24)).cell? ⟨w.heap.size, 1, none⟩ = some (.slice (some ⟨b, o, none⟩) n cap) ∧ w.heap.size < (w.alloc (.cells #[.int .i64 den, .slice (some ⟨b, o, none⟩) n cap] 24)).heap.size) := by show _ ∧ _; simp
      go_enter Tryz.func8, Tryz.ntmps8
      go_wp2_with fail
      go_loopw [3, 4] (fun s i wr => ∃ k : Nat, k ≤ n ∧ s = .int .i64 (gcdTo den c k) ∧ i = .int .i64 k ∧ Hid (OkTo p c k) ∧ Hid (Below w.heap.size w wr) ∧ wr.cell? ⟨w.heap.size, 1, none⟩ = some (.slice (some ⟨b, o, none⟩) n cap) ∧ w.heap.size < wr.heap.size) (fun _ i _ => n - (intOf i).toNat)
      case atStart => exact ⟨0, Nat.zero_le _, by show _ = Value.int IntKind.i64 ((den.natAbs : Nat) : Int); congr 1; omega, rfl, fun i hi => by omega, HB0.out, hL0.out⟩
      case round =>
        clear HB0 hL0
        obtain ⟨k, hk, rfl, rfl, HO, HW, hcL, hw⟩ := hrel
        have hk0 : (0 : Int) ≤ (k : Int) := by omega
        by_cases hlt : k < n
        · have hkn : (k : Int) < (n : Int) := by omega
          have hcl := HW.out.cell (cell_lt (HT.out k hlt).1)
          have hcr := HW.out.cell (cell_lt (HT.out k hlt).2)
          rw [(HT.out k hlt).1] at hcl
          rw [(HT.out k hlt).2] at hcr
          have HB1 : Hid (Below w.heap.size w (wr.alloc (.cells #[.int .i64 (p k), .int .i64 (c k)] 55))) := HW.out.alloc HW.out.size _
          by_cases hb1 : c k = 0
          · have hbf : ok = false := not_true_of HOK.out (fun h => (h.2.2.1 k hlt).2.2.1 hb1)
            subst hbf
            have e0 : (c k == 0) = true := by simp [hb1]
            clear hb1
            go_wp2_with fail
            go_ret
            exact ⟨rfl, HB1.out⟩
          have e0 : (c k == 0) = false := by simp [hb1]
          by_cases hb2 : c k ≤ 1099511627776
          · by_cases hb3 : -1099511627776 ≤ c k
            · by_cases hpr : 2 ≤ p k ∧ p k ≤ 1000000 ∧ Pr (p k).toNat
              · have hterm : TermOk (p k) (c k) := ⟨hpr.2.1, hb1, hb3, hb2, hpr.1, hpr.2.2⟩
                obtain ⟨q, hq⟩ := Int.eq_ofNat_of_zero_le (show 0 ≤ p k by omega)
                have hprime := IsPrime_in q true ⟨fun _ => by have := hpr.2.2; rw [hq] at this; simpa using this, fun _ => rfl⟩ (wr.alloc (.cells #[.int .i64 (p k), .int .i64 (c k)] 55)) (by omega) (by omega)
                rw [← hq] at hprime
                have HTM : Hid (TermOk (p k) (c k)) := hterm
                clear hterm hpr hb1 hq
                go_wp2_with fail
                refine hprime.mono ?_
                clear hprime
                rintro e w2 ⟨rfl, rfl⟩
                have hg1 := gcdTo_pos den c h1 k
                have HC1 : Hid ((wr.alloc (.cells #[.int .i64 (p k), .int .i64 (c k)] 55)).cell? ⟨w.heap.size, 1, none⟩ = some (.slice (some ⟨b, o, none⟩) n cap)) := by
                  show _ = _
                  rw [World.cell?_alloc_lt _ _ ⟨w.heap.size, 1, none⟩ hw]; exact hcL
                have HZ1 : Hid (w.heap.size < (wr.alloc (.cells #[.int .i64 (p k), .int .i64 (c k)] 55)).heap.size) := by
                  show _ < _
                  simp; omega
                rcases Nat.eq_zero_or_pos k with rfl | hpos
                · go_wp2_with fail
                  go_quiet (fail)
                  go_wp2_with (go_at_call 21; refine (gcd_any _ _ _ (by omega) (by omega) (by omega) (by omega)).mono ?_; rintro e w3 ⟨rfl, m, rfl⟩)
                  exact ⟨⟨1, by omega, by show _ = Value.int IntKind.i64 ((Int.gcd (gcdTo den c 0 : Int) (c 0) : Nat) : Int); rw [Int.gcd_comm], by go_num, HO.out.succ (by have := HTM.out.2.2.2.2.1; show (1 : Int) < p 0; omega) HTM.out, below_drewN HB1.out _, HC1.out, HZ1.out⟩, by simp [intOf]; omega⟩
                · obtain ⟨j, rfl⟩ : ∃ j, k = j + 1 := ⟨k - 1, by omega⟩
                  have hcj := HB1.out.cell (cell_lt (HT.out j (by omega)).1)
                  rw [(HT.out j (by omega)).1] at hcj
                  have i0 : (0 : Int) ≤ (j : Int) := by omega
                  have i1 : (j : Int) < (n : Int) := by omega
                  by_cases hle : p (j + 1) ≤ p j
                  · have hbf : ok = false := not_true_of HOK.out (fun h => by have : p j < p (j + 1) := (h.2.2.1 (j + 1) hlt).1; omega)
                    subst hbf
                    go_wp2_with fail
                    go_quiet (fail)
                    go_wp2_with fail
                    go_ret
                    exact ⟨rfl, below_drewN HB1.out _⟩
                  · go_wp2_with fail
                    go_quiet (fail)
                    go_wp2_with (go_at_call 21; refine (gcd_any _ _ _ (by omega) (by omega) (by omega) (by omega)).mono ?_; rintro e w3 ⟨rfl, m, rfl⟩)
                    exact ⟨⟨j + 1 + 1, by omega, by show _ = Value.int IntKind.i64 ((Int.gcd (gcdTo den c (j + 1) : Int) (c (j + 1)) : Nat) : Int); rw [Int.gcd_comm], by go_num, HO.out.succ (by show p j < p (j + 1); omega) HTM.out, below_drewN HB1.out _, HC1.out, HZ1.out⟩, by simp [intOf]; omega⟩
              · have hbf : ok = false := not_true_of HOK.out (fun h => hpr ⟨(h.2.2.1 k hlt).2.2.2.2.2.1, (h.2.2.1 k hlt).2.1, (h.2.2.1 k hlt).2.2.2.2.2.2⟩)
                subst hbf
                have hprime : Calls Tryz.prog 20 #[.int .i64 (p k)] (wr.alloc (.cells #[.int .i64 (p k), .int .i64 (c k)] 55)) fun e w' => e = .returned (.bool false) ∧ w' = (wr.alloc (.cells #[.int .i64 (p k), .int .i64 (c k)] 55)) := by
                  by_cases hin : 2 ≤ p k ∧ p k ≤ 1000000
                  · obtain ⟨q, hq⟩ := Int.eq_ofNat_of_zero_le (show 0 ≤ p k by omega)
                    have := IsPrime_in q false ⟨(fun h => by cases h), (fun h => absurd ⟨hin.1, hin.2, by rw [hq]; simpa using h⟩ hpr)⟩ (wr.alloc (.cells #[.int .i64 (p k), .int .i64 (c k)] 55)) (by omega) (by omega)
                    rw [← hq] at this
                    exact this
                  · exact IsPrime_out (p k) _ (by omega)
                clear hpr hb1
                go_wp2_with fail
                refine hprime.mono ?_
                clear hprime
                rintro e w2 ⟨rfl, rfl⟩
                go_wp2_with fail
                go_quiet (fail)
                go_wp2_with fail
                go_ret
                exact ⟨rfl, below_drewN HB1.out _⟩
            · have hbf : ok = false := not_true_of HOK.out (fun h => hb3 (h.2.2.1 k hlt).2.2.2.1)
              subst hbf
              clear hb1
              go_wp2_with fail
              go_ret
              exact ⟨rfl, HB1.out⟩
          · have hbf : ok = false := not_true_of HOK.out (fun h => hb2 (h.2.2.1 k hlt).2.2.2.2.1)
            subst hbf
            clear hb1
            go_wp2_with fail
            go_ret
            exact ⟨rfl, HB1.out⟩
        · obtain rfl : k = n := by omega
          have hg1 := gcdTo_pos den c h1 k
          by_cases hg : gcdTo den c k = 1
          · have hbt : ok = true := HOK.out.2 ⟨h1, h2, HO.out, hg⟩
            subst hbt
            have hgb : ¬ (1 < (gcdTo den c k : Int)) := by omega
            clear hg
            go_wp2_with fail
            go_ret
            exact ⟨rfl, HW.out⟩
          · have hbf : ok = false := not_true_of HOK.out (fun h => hg h.2.2.2)
            subst hbf
            have hgb : 1 < (gcdTo den c k : Int) := by omega
            clear hg
            go_wp2_with fail
            go_ret
            exact ⟨rfl, HW.out⟩
    · have hbf : ok = false := not_true_of HOK.out (fun h => h2 h.2.1)
      subst hbf
      go_enter Tryz.func8, Tryz.ntmps8
      go_wp2_with fail
      go_ret
      exact ⟨rfl, (Below.refl _ _).alloc (Nat.le_refl _) _⟩
  · have hbf : ok = false := not_true_of HOK.out (fun h => h1 h.1)
    subst hbf
    go_enter Tryz.func8, Tryz.ntmps8
    go_wp2_with fail
    go_ret
    exact ⟨rfl, (Below.refl _ _).alloc (Nat.le_refl _) _⟩

set_option maxHeartbeats 1000000 in
theorem LogError_none (den : Int) (p c : Nat → Int) (ok : Bool) (hok : ok = true ↔ OkLog den 0 p c) (w : World) :
    Calls Tryz.prog 8 #[.agg #[.int .i64 den, .slice none 0 0]] w fun e w' => e = .returned (.int .i64 (shapeCode ok)) ∧ Below w.heap.size w w' := by
  have HOK : Hid (ok = true ↔ den = 1) := hok.trans (OkLog_none den p c)
  clear hok
  by_cases h1 : 1 ≤ den
  · by_cases h2 : den ≤ 1000000
    · by_cases h3 : den = 1
      · have hbt : ok = true := HOK.out.2 h3
        subst hbt
        subst h3
        go_enter Tryz.func8, Tryz.ntmps8
        go_wp2_with fail
        refine wp_loop_rounds 1 ?_
        rw [rounds_succ]
        go_wp2_with fail
        go_ret
        exact ⟨rfl, (Below.refl _ _).alloc (Nat.le_refl _) _⟩
      · have hbf : ok = false := not_true_of HOK.out h3
        subst hbf
        have hgb : 1 < den := by omega
        clear h3
        go_enter Tryz.func8, Tryz.ntmps8
        go_wp2_with fail
        refine wp_loop_rounds 1 ?_
        rw [rounds_succ]
        go_wp2_with fail
        go_ret
        exact ⟨rfl, (Below.refl _ _).alloc (Nat.le_refl _) _⟩
    · have hbf : ok = false := not_true_of HOK.out (fun h => h2 (by omega))
      subst hbf
      go_enter Tryz.func8, Tryz.ntmps8
      go_wp2_with fail
      go_ret
      exact ⟨rfl, (Below.refl _ _).alloc (Nat.le_refl _) _⟩
  · have hbf : ok = false := not_true_of HOK.out (fun h => h1 (by omega))
    subst hbf
    go_enter Tryz.func8, Tryz.ntmps8
    go_wp2_with fail
    go_ret
    exact ⟨rfl, (Below.refl _ _).alloc (Nat.le_refl _) _⟩
end Go.Proofs.YtiecbconcdncmabGreatDoor
