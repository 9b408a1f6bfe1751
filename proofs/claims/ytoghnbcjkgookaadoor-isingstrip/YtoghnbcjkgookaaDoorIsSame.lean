/- The document's SameBonds at equal ones; the law's stripError and sidesError. -/
import Derived.Test.YtoghnbcjkgookaaDoorIsGrid
namespace Go.Proofs.YtoghnbcjkgookaaDoor
open Go.RowKit

theorem equal_pair (d : Nat) (a b : Int) (w : World) : (Op.equalIn (d + 1 + 1) 50 (.agg #[.int .i64 a, .int .i64 b]) (.agg #[.int .i64 a, .int .i64 b])).run Tryd.prog w = .ok true w := by
  unfold Op.equalIn
  simp only [Sem.run_bind, run_underlying Tryd.underlying50, Result.andThen_ok]
  go_simp
  rw [show List.range' 0 2 = [0, 1] from rfl, List.forIn_cons]
  have h3 := Tryd.underlying3
  go_simp
theorem pair_eql (a b : Int) (w : World) : (binOp BinOp.eql 50 (.agg #[.int .i64 a, .int .i64 b]) (.agg #[.int .i64 a, .int .i64 b])).run Tryd.prog w = .ok (.bool true) w := by
  have h := equal_pair 9998 a b w
  go_simp

set_option maxRecDepth 100000 in
set_option maxHeartbeats 4000000 in
theorem SameBonds_any (m : Nat) (ev fv : Value) (p q : Nat → Int) (w : World) (hG : EdAt w ev m p q) (hF : EdAt w fv m p q) (hm : m ≤ 1000) :
    Calls Tryd.prog 26 #[ev, fv] w fun e w' => e = .returned (.bool true) ∧ Below w.heap.size w w' := by
  obtain ⟨ad, cap, rfl, -⟩ := id hG
  obtain ⟨ae, cae, rfl, -⟩ := id hF
  have hmI : (m : Int) ≤ 1000 := by omega
  have HG := Hid.mk' hG
  have HF := Hid.mk' hF
  have hMM : ((m : Int) != (m : Int)) = false := by simp
  clear hG hF
  go_enter Tryd.func26, Tryd.ntmps26
  go_wp2_with fail
  go_loopw [5] (fun i wr => ∃ k : Nat, k ≤ m ∧ i = .int .i64 k ∧ Hid (Below w.heap.size w wr)) (fun i _ => m - (intOf i).toNat)
  case atStart => exact ⟨0, Nat.zero_le _, rfl, Below.refl _ _⟩
  case round =>
    obtain ⟨k, hk, rfl, HB⟩ := hrel
    have hk0 : (0 : Int) ≤ (k : Int) := by omega
    rcases Nat.lt_or_ge k m with h1 | h1
    · have hkm : (k : Int) < (m : Int) := by omega
      obtain ⟨b, o, rfl, hT⟩ := HG.out.at h1
      obtain ⟨b', o', rfl, hT'⟩ := HF.out.at h1
      have hTk := hT k h1
      have hTk' := hT' k h1
      have e0 : wr.cell? ⟨b, o + k * 2, none⟩ = some (.int .i64 (p k)) := by rw [HB.out.cell (cell_lt hTk.1)]; exact hTk.1
      have e1 : wr.cell? ⟨b, o + k * 2 + 1, none⟩ = some (.int .i64 (q k)) := by rw [HB.out.cell (cell_lt hTk.2)]; exact hTk.2
      have e2 : wr.cell? ⟨b', o' + k * 2, none⟩ = some (.int .i64 (p k)) := by rw [HB.out.cell (cell_lt hTk'.1)]; exact hTk'.1
      have e3 : wr.cell? ⟨b', o' + k * 2 + 1, none⟩ = some (.int .i64 (q k)) := by rw [HB.out.cell (cell_lt hTk'.2)]; exact hTk'.2
      have hq := fun (W : World) => pair_eql (p k) (q k) W
      clear hT hT' hTk hTk'
      go_wp2_with fail
      go_quiet (fail)
      have HBQ := Hid.mk' (below_drewN HB.out nq)
      generalize wr.drewN nq = Wq at *
      clear e0 e1 e2 e3
      go_wp2_with fail
      exact ⟨⟨k + 1, h1, by go_num, HBQ⟩, by simp [intOf]; omega⟩
    · obtain rfl : k = m := by omega
      go_wp2_with fail
      go_ret
      exact ⟨rfl, HB.out⟩

def fitsP (h l : Int) : Prop := 1 ≤ h ∧ h ≤ 4 ∧ 1 ≤ l ∧ l ≤ 12
theorem stripError_no (h l : Int) (w : World) (hb : ¬ fitsP h l) : Calls Tryd.prog 20 #[.int .i64 h, .int .i64 l] w fun e w' => e = .returned (.int .i64 2) ∧ w' = w := by
  go_enter Tryd.func20, Tryd.ntmps20
  by_cases h1 : h < 1
  · have h1d : decide (h < 1) = true := decide_eq_true h1
    clear hb h1
    go_wp2_with fail
    go_ret
    exact ⟨rfl, rfl⟩
  · have h1d : decide (h < 1) = false := decide_eq_false h1
    by_cases h2 : 4 < h
    · have h2d : decide (4 < h) = true := decide_eq_true h2
      clear hb h1 h2
      go_wp2_with fail
      go_ret
      exact ⟨rfl, rfl⟩
    · have h2d : decide (4 < h) = false := decide_eq_false h2
      by_cases h3 : l < 1
      · have h3d : decide (l < 1) = true := decide_eq_true h3
        clear hb h1 h2 h3
        go_wp2_with fail
        go_ret
        exact ⟨rfl, rfl⟩
      · have h3d : decide (l < 1) = false := decide_eq_false h3
        have h4d : decide (12 < l) = true := decide_eq_true (Int.not_le.1 (fun h4 => hb ⟨by omega, by omega, by omega, h4⟩))
        clear hb h1 h2 h3
        go_wp2_with fail
        go_ret
        exact ⟨rfl, rfl⟩
theorem stripError_yes (h l : Int) (w : World) (hb : fitsP h l) : Calls Tryd.prog 20 #[.int .i64 h, .int .i64 l] w fun e w' => e = .returned (.int .i64 0) ∧ w' = w := by
  obtain ⟨h1, h2, h3, h4⟩ := hb
  have h1d : decide (h < 1) = false := decide_eq_false (by omega)
  have h2d : decide (4 < h) = false := decide_eq_false (by omega)
  have h3d : decide (l < 1) = false := decide_eq_false (by omega)
  have h4d : decide (12 < l) = false := decide_eq_false (by omega)
  clear h1 h2 h3 h4
  go_enter Tryd.func20, Tryd.ntmps20
  go_wp2_with fail
  go_ret
  exact ⟨rfl, rfl⟩
theorem sidesError_no (h l : Int) (w : World) (hb : ¬ isGr h l) : Calls Tryd.prog 24 #[.int .i64 h, .int .i64 l] w fun e w' => e = .returned (.int .i64 2) ∧ w' = w := by
  by_cases hf : fitsP h l
  · have HF := Hid.mk' (stripError_yes h l w hf)
    by_cases h1 : h = 1
    · subst h1
      clear hb hf
      go_enter Tryd.func24, Tryd.ntmps24
      go_wp2_with fail
      refine HF.out.mono ?_
      rintro e w2 ⟨rfl, hw2⟩
      rw [hw2]
      clear hw2 HF
      go_wp2_with fail
      go_ret
      exact ⟨rfl, rfl⟩
    · have h1d : (h == 1) = false := by simpa using h1
      obtain rfl : l = 1 := by
        obtain ⟨a1, a2, a3, a4⟩ := hf
        by_cases h2 : l = 1
        · exact h2
        · exact absurd (show isGr h l from ⟨by omega, a2, by omega, a4⟩) hb
      clear hb hf h1
      go_enter Tryd.func24, Tryd.ntmps24
      go_wp2_with fail
      refine HF.out.mono ?_
      rintro e w2 ⟨rfl, hw2⟩
      rw [hw2]
      clear hw2 HF
      go_wp2_with fail
      go_ret
      exact ⟨rfl, rfl⟩
  · have HF := Hid.mk' (stripError_no h l w hf)
    clear hb hf
    go_enter Tryd.func24, Tryd.ntmps24
    go_wp2_with fail
    refine HF.out.mono ?_
    rintro e w2 ⟨rfl, hw2⟩
    rw [hw2]
    clear hw2 HF
    go_wp2_with fail
    go_ret
    exact ⟨rfl, rfl⟩
theorem sidesError_yes (h l : Int) (w : World) (hb : isGr h l) : Calls Tryd.prog 24 #[.int .i64 h, .int .i64 l] w fun e w' => e = .returned (.int .i64 0) ∧ w' = w := by
  obtain ⟨h1, h2, h3, h4⟩ := hb
  have HF := Hid.mk' (stripError_yes h l w ⟨by omega, h2, by omega, h4⟩)
  have h1d : (h == 1) = false := by simp; omega
  have h2d : (l == 1) = false := by simp; omega
  clear h1 h2 h3 h4
  go_enter Tryd.func24, Tryd.ntmps24
  go_wp2_with fail
  refine HF.out.mono ?_
  rintro e w2 ⟨rfl, hw2⟩
  rw [hw2]
  clear hw2 HF
  go_wp2_with fail
  go_ret
  exact ⟨rfl, rfl⟩
end Go.Proofs.YtoghnbcjkgookaaDoor
