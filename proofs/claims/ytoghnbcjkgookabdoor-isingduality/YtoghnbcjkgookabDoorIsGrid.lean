/- ising.Grid. -/
import Derived.Test.YtoghnbcjkgookabDoorIsEach
import Derived.Laws.EntriesVeiled
namespace Go.Proofs.YtoghnbcjkgookabDoor
open Go.RowKit

/-- A list's bonds by their places. -/
def fsE (E : List (Nat × Nat)) (i : Nat) : Int := ((E.getD i (0, 0)).1 : Nat)
def snE (E : List (Nat × Nat)) (i : Nat) : Int := ((E.getD i (0, 0)).2 : Nat)
def isGr (h l : Int) : Prop := 2 ≤ h ∧ h ≤ 4 ∧ 2 ≤ l ∧ l ≤ 12

set_option maxRecDepth 100000 in
set_option maxHeartbeats 1000000 in
theorem fits_no (h l : Int) (w : World) (hb : ¬ (1 ≤ h ∧ h ≤ 4 ∧ 1 ≤ l ∧ l ≤ 12)) : Calls Tryd.prog 18 #[.int .i64 h, .int .i64 l] w fun e w' => e = .returned (.bool false) ∧ w' = w := by
  go_enter Tryd.func18, Tryd.ntmps18
  by_cases h1 : 1 ≤ h
  · have h1d : decide (1 ≤ h) = true := decide_eq_true h1
    by_cases h2 : h ≤ 4
    · have h2d : decide (h ≤ 4) = true := decide_eq_true h2
      by_cases h3 : 1 ≤ l
      · have h3d : decide (1 ≤ l) = true := decide_eq_true h3
        have h4d : decide (l ≤ 12) = false := decide_eq_false (fun h4 => hb ⟨h1, h2, h3, h4⟩)
        clear hb h1 h2 h3
        go_wp2_with fail
        go_ret
        exact ⟨rfl, rfl⟩
      · have h3d : decide (1 ≤ l) = false := decide_eq_false h3
        clear hb h1 h2 h3
        go_wp2_with fail
        go_ret
        exact ⟨rfl, rfl⟩
    · have h2d : decide (h ≤ 4) = false := decide_eq_false h2
      clear hb h1 h2
      go_wp2_with fail
      go_ret
      exact ⟨rfl, rfl⟩
  · have h1d : decide (1 ≤ h) = false := decide_eq_false h1
    clear hb h1
    go_wp2_with fail
    go_ret
    exact ⟨rfl, rfl⟩
theorem fits_yes (h l : Int) (w : World) (h1 : 1 ≤ h) (h2 : h ≤ 4) (h3 : 1 ≤ l) (h4 : l ≤ 12) : Calls Tryd.prog 18 #[.int .i64 h, .int .i64 l] w fun e w' => e = .returned (.bool true) ∧ w' = w := by
  have h1d : decide (1 ≤ h) = true := decide_eq_true h1
  have h2d : decide (h ≤ 4) = true := decide_eq_true h2
  have h3d : decide (1 ≤ l) = true := decide_eq_true h3
  have h4d : decide (l ≤ 12) = true := decide_eq_true h4
  go_enter Tryd.func18, Tryd.ntmps18
  go_wp2_with fail
  go_ret
  exact ⟨rfl, rfl⟩
set_option maxRecDepth 100000 in
set_option maxHeartbeats 1000000 in
theorem isGrid_no (h l : Int) (w : World) (hb : ¬ isGr h l) : Calls Tryd.prog 10 #[.int .i64 h, .int .i64 l] w fun e w' => e = .returned (.bool false) ∧ w' = w := by
  by_cases hf : 1 ≤ h ∧ h ≤ 4 ∧ 1 ≤ l ∧ l ≤ 12
  · have HF := Hid.mk' (fits_yes h l w hf.1 hf.2.1 hf.2.2.1 hf.2.2.2)
    by_cases h1 : 1 < h
    · have h1d : decide (1 < h) = true := decide_eq_true h1
      have h2d : decide (1 < l) = false := decide_eq_false (fun h2 => hb ⟨h1, hf.2.1, h2, hf.2.2.2⟩)
      clear hb hf h1
      go_enter Tryd.func10, Tryd.ntmps10
      go_wp2_with fail
      refine HF.out.mono ?_
      rintro e w2 ⟨rfl, hw2⟩
      rw [hw2]
      clear hw2
      go_wp2_with fail
      go_ret
      exact ⟨rfl, rfl⟩
    · have h1d : decide (1 < h) = false := decide_eq_false h1
      clear hb hf h1
      go_enter Tryd.func10, Tryd.ntmps10
      go_wp2_with fail
      refine HF.out.mono ?_
      rintro e w2 ⟨rfl, hw2⟩
      rw [hw2]
      clear hw2
      go_wp2_with fail
      go_ret
      exact ⟨rfl, rfl⟩
  · have HF := Hid.mk' (fits_no h l w hf)
    clear hb hf
    go_enter Tryd.func10, Tryd.ntmps10
    go_wp2_with fail
    refine HF.out.mono ?_
    rintro e w2 ⟨rfl, hw2⟩
    rw [hw2]
    clear hw2
    go_wp2_with fail
    go_ret
    exact ⟨rfl, rfl⟩
theorem isGrid_yes (h l : Int) (w : World) (hb : isGr h l) : Calls Tryd.prog 10 #[.int .i64 h, .int .i64 l] w fun e w' => e = .returned (.bool true) ∧ w' = w := by
  obtain ⟨h1, h2, h3, h4⟩ := hb
  have HF := Hid.mk' (fits_yes h l w (by omega) h2 (by omega) h4)
  have h1d : decide (1 < h) = true := decide_eq_true (by omega)
  have h2d : decide (1 < l) = true := decide_eq_true (by omega)
  go_enter Tryd.func10, Tryd.ntmps10
  go_wp2_with fail
  refine HF.out.mono ?_
  rintro e w2 ⟨rfl, hw2⟩
  rw [hw2]
  clear hw2
  go_wp2_with fail
  go_ret
  exact ⟨rfl, rfl⟩

set_option maxRecDepth 100000 in
set_option maxHeartbeats 4000000 in
theorem bounded_any (a : Nat → Addr) (N : Int) (m : Nat) (ad : Option Addr) (cap : Nat) (p q : Nat → Int) (w : World) (hE : Errs w a) (hG : EdAt w (.slice ad m cap) m p q) (hm : m ≤ 1000) :
    Calls Tryd.prog 13 #[.agg #[.int .i64 N, .slice ad m cap]] w fun e w' => e = .returned (if syE N m p q = 0 then .tuple #[.agg #[.int .i64 N, .slice ad m cap], .nilIface] else .tuple #[.agg #[.int .i64 0, .slice none 0 0], errV a 2]) ∧ Below w.heap.size w w' := by
  obtain ⟨w1, hw1⟩ : ∃ w1, w1 = (w.alloc (.cells #[.int .i64 N, .slice ad m cap] 25)).alloc (.cells #[.int .i64 0, .slice none 0 0] 25) := ⟨_, rfl⟩
  have hb1 : Below w.heap.size w w1 := by rw [hw1]; exact ((Below.refl _ _).alloc (Nat.le_refl _) _).alloc (by simp) _
  have hc0 : w1.cell? ⟨w.heap.size, 0, none⟩ = some (.int .i64 N) := by rw [hw1]; go_simp
  have hc1 : w1.cell? ⟨w.heap.size, 1, none⟩ = some (.slice ad m cap) := by rw [hw1]; go_simp
  have hr0 : w1.cell? ⟨w.heap.size + 1, 0, none⟩ = some (.int .i64 0) := by rw [hw1]; go_simp
  have hr1 : w1.cell? ⟨w.heap.size + 1, 1, none⟩ = some (.slice none 0 0) := by rw [hw1]; go_simp
  have fr0 : w1.frozen? ⟨w.heap.size + 1, 0, none⟩ = false := by rw [hw1]; go_simp
  have fr1 : w1.frozen? ⟨w.heap.size + 1, 1, none⟩ = false := by rw [hw1]; go_simp
  have HC : Hid (∀ W, Below w1.heap.size w1 W → (W.cell? ⟨w.heap.size, 0, none⟩ = some (.int .i64 N) ∧ W.cell? ⟨w.heap.size, 1, none⟩ = some (.slice ad m cap)) ∧ (W.cell? ⟨w.heap.size + 1, 0, none⟩ = some (.int .i64 0) ∧ W.cell? ⟨w.heap.size + 1, 1, none⟩ = some (.slice none 0 0)) ∧ W.frozen? ⟨w.heap.size + 1, 0, none⟩ = false ∧ W.frozen? ⟨w.heap.size + 1, 1, none⟩ = false) := fun W hb => ⟨⟨by rw [hb.cell (cell_lt hc0)]; exact hc0, by rw [hb.cell (cell_lt hc1)]; exact hc1⟩, ⟨by rw [hb.cell (cell_lt hr0)]; exact hr0, by rw [hb.cell (cell_lt hr1)]; exact hr1⟩, by rw [hb.frozen (p := ⟨w.heap.size + 1, 0, none⟩) (cell_lt hr0)]; exact fr0, by rw [hb.frozen (p := ⟨w.heap.size + 1, 1, none⟩) (cell_lt hr1)]; exact fr1⟩
  have HE : Hid (∀ W, Below w1.heap.size w1 W → W.cell? ⟨0, 0, none⟩ = some (.iface 44 (.pointer (some (a 1))))) := fun W hb => ((hE.below hb1).below hb).c1
  have HV := Hid.mk' (IValid_any a N m _ p q w1 (hE.below hb1) (hG.later hb1) hm)
  have HW1 := Hid.mk' hw1
  have HB1 := Hid.mk' hb1
  clear hE hG hb1 hw1
  by_cases h0 : syE N m p q = 0
  · rw [if_pos h0]
    rw [h0, errV_zero] at HV
    clear h0
    go_enter Tryd.func13, Tryd.ntmps13
    go_upto_region 1 with fail
    rw [← HW1.out]
    go_wp2_with fail
    refine HV.out.mono ?_
    rintro e w2 ⟨rfl, hb2⟩
    have HB2 := Hid.mk' hb2
    clear HV hc0 hc1 hr0 hr1 fr0 fr1
    obtain ⟨⟨c0, c1⟩, ⟨r0, r1⟩, f0, f1⟩ := HC.out _ hb2
    clear hb2
    go_wp2_with fail
    refine bodyPost_ret (v := .tuple #[.agg #[.int .i64 N, .slice ad m cap], .nilIface]) (by simp [results, Tryd.results13, go_sem, r0, r1]) rfl ⟨rfl, ?_⟩
    exact ((below_chain HB1.out HB2.out).setCell (by simp) _).setCell (by simp) _
  · rw [if_neg h0]
    have hR := errV_pos a h0
    rw [hR] at HV
    have HR2 : Hid (errV a 2 = .iface 44 (.pointer (some (a 1)))) := rfl
    rw [HR2.out]
    generalize a (syE N m p q - 1) = EA at *
    clear hR h0
    go_enter Tryd.func13, Tryd.ntmps13
    go_upto_region 1 with fail
    rw [← HW1.out]
    go_wp2_with fail
    refine HV.out.mono ?_
    rintro e w2 ⟨rfl, hb2⟩
    have HB2 := Hid.mk' hb2
    clear HV hc0 hc1 hr0 hr1 fr0 fr1
    obtain ⟨⟨c0, c1⟩, ⟨r0, r1⟩, f0, f1⟩ := HC.out _ hb2
    have eB := HE.out _ hb2
    clear hb2
    go_wp2_with fail
    go_region
    all_goals
      go_wp2_with fail
      refine bodyPost_ret (v := .tuple #[.agg #[.int .i64 0, .slice none 0 0], .iface 44 (.pointer (some (a 1)))]) (by simp [results, Tryd.results13, go_sem, r0, r1]) rfl ⟨rfl, ?_⟩
      exact (((below_chain HB1.out HB2.out).setCell (by simp) _).setCell (by simp) _).drew
end Go.Proofs.YtoghnbcjkgookabDoor
