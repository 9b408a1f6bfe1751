/- plain.Code by contracts: nil, a sentinel, an api.Fault round one, another error of errors.New. -/
import Derived.Test.YtiegobkbinojeaaDoorAsB
import Derived.Test.YtiegobkbinojeaaDoorErrs
import Derived.Outline
namespace Go.Proofs.YtiegobkbinojeaaDoor
open Go.RowKit Go.Extern.Stop Go.Stop Go.Extern

/-- The eight cells of the slice that plain.Code makes. -/
def eight (a : Nat → Addr) : Array Value := #[.iface 149 (.pointer (some (a 0))), .iface 149 (.pointer (some (a 1))), .iface 149 (.pointer (some (a 2))), .iface 149 (.pointer (some (a 3))), .iface 149 (.pointer (some (a 4))), .iface 149 (.pointer (some (a 5))), .iface 149 (.pointer (some (a 6))), .iface 149 (.pointer (some (a 7)))]

theorem eight_cell (a : Nat → Addr) (W : World) (j : Nat) (hj : j < 8) : (W.alloc (.cells (eight a) 29)).cell? ⟨W.heap.size, j, none⟩ = some (.iface 149 (.pointer (some (a j)))) := by
  rw [World.cell?_alloc_at _ _ _ _ (by simp)]
  have : j = 0 ∨ j = 1 ∨ j = 2 ∨ j = 3 ∨ j = 4 ∨ j = 5 ∨ j = 6 ∨ j = 7 := by omega
  rcases this with rfl | rfl | rfl | rfl | rfl | rfl | rfl | rfl <;> rfl

theorem ret2_int {a b c d : Int} (h1 : a = c) (h2 : b = d) : Ending.returned (.tuple #[.int .i64 a, .int .i64 b]) = .returned (.tuple #[.int .i64 c, .int .i64 d]) := by rw [h1, h2]

/-- The number of the sentinel at place k; -1: there is none. -/
def codeOf (k : Nat) : Int := if k < 8 then (k : Int) + 1 else -1
theorem codeOf_lt {k : Nat} (h : k < 8) : codeOf k = (k : Int) + 1 := by unfold codeOf; rw [if_pos h]
theorem codeOf_ge {k : Nat} (h : ¬ k < 8) : codeOf k = -1 := by unfold codeOf; rw [if_neg h]

theorem code_nil (w : World) : Calls Tryd.prog 30 #[.nilIface] w fun e w' => e = .returned (.tuple #[.int .i64 0, .int .i64 (-1)]) ∧ w' = w := by
  go_enter Tryd.func30, Tryd.ntmps30
  go_wp2
  go_ret2
  exact ⟨rfl, rfl⟩

set_option maxHeartbeats 1000000 in
theorem code_err (a : Nat → Addr) (p : Addr) (k : Nat) (hk : k ≤ 8) (w : World) (h : Errs w a) (hp : ∃ c t, w.heap[p.block]? = some (.cells c t (0, 0)))
    (hne : ∀ j, j < k → p ≠ a j) (heq : k < 8 → p = a k) :
    Calls Tryd.prog 30 #[.iface 149 (.pointer (some p))] w fun e w' => e = .returned (.tuple #[.int .i64 (codeOf k), .int .i64 (-1)]) ∧ Below w.heap.size w w' := by
  have Hne : Hid (∀ j, j < k → p ≠ a j) := hne
  have Heq : Hid (k < 8 → p = a k) := heq
  clear hne heq
  have h1 : Errs (w.alloc (.cells #[.pointer none] 86)) a := h.below ((Below.refl _ _).alloc (Nat.le_refl _) _)
  have hAs := as_miss p ⟨w.heap.size, 0, none⟩ (w.alloc (.cells #[.pointer none] 86)) h1.et
  go_enter Tryd.func30, Tryd.ntmps30
  go_wp2_with fail
  refine hAs.mono ?_
  clear hAs
  rintro e w1 ⟨rfl, hb1⟩
  have h2 := h1.below hb1
  have d0 := h2.c0
  have d1 := h2.c1
  have d2 := h2.c2
  have d3 := h2.c3
  have d4 := h2.c4
  have d5 := h2.c5
  have d6 := h2.c6
  have d7 := h2.c7
  have hbw : Below w.heap.size w w1 := ((Below.refl _ _).alloc (Nat.le_refl _) _).trans (hb1.mono (by simp))
  have h3 : Errs (w1.alloc (.cells (eight a) 29)) a := h2.below ((Below.refl _ _).alloc (Nat.le_refl _) _)
  have hb3 : Below w.heap.size w (w1.alloc (.cells (eight a) 29)) := hbw.alloc hbw.size _
  obtain ⟨cp, tp, hp0⟩ := hp
  have hp3 : (w1.alloc (.cells (eight a) 29)).heap[p.block]? = some (.cells cp tp (0, 0)) := by rw [hb3.block _ (heap_lt hp0)]; exact hp0
  have hcell := eight_cell a w1
  have H3 : Hid (Errs (w1.alloc (.cells (eight a) 29)) a) := h3
  have HP : Hid ((w1.alloc (.cells (eight a) 29)).heap[p.block]? = some (.cells cp tp (0, 0))) := hp3
  have HB : Hid (Below w.heap.size w (w1.alloc (.cells (eight a) 29))) := hb3
  have HC : Hid (∀ j, j < 8 → (w1.alloc (.cells (eight a) 29)).cell? ⟨w1.heap.size, j, none⟩ = some (.iface 149 (.pointer (some (a j))))) := hcell
  simp only [eight] at H3 HP HB HC
  clear h3 hp3 hb3 hcell hbw hb1 h1 hp0
  go_wp2_with fail
  clear d0 d1 d2 d3 d4 d5 d6 d7 h h2
  go_loop [3, 26] (fun s t => ∃ j : Nat, j ≤ k ∧ s = .int .i64 (-1) ∧ t = .int .i64 j) (fun _ t => 8 - (intOf t).toNat)
  case atStart => exact ⟨0, Nat.zero_le _, rfl, rfl⟩
  case round =>
    obtain ⟨j, hj, rfl, rfl⟩ := hrel
    by_cases hlt : j < 8
    · have hcj := HC.out j hlt
      obtain ⟨cj, tj, hrj⟩ := H3.out.row j hlt
      by_cases hjk : j = k
      · subst hjk
        have hpa := Heq.out hlt
        subst hpa
        go_wp2_with (first | (go_at_call 57; refine (is_same _ _).mono ?_; rintro e w' ⟨rfl, rfl⟩))
        go_ret2
        exact ⟨ret2_int (codeOf_lt hlt).symm rfl, HB.out⟩
      · have hnj := Hne.out j (by omega)
        have HR : Hid ((w1.alloc (.cells (eight a) 29)).heap[(a j).block]? = some (.cells cj tj (0, 0))) := hrj
        simp only [eight] at HR
        clear hrj
        go_wp2_with (first | (go_at_call 57; refine (is_other _ _ _ _ _ _ _ hnj HP.out HR.out).mono ?_; rintro e w' ⟨rfl, rfl⟩))
        go_round
        case rel => exact ⟨j + 1, by omega, rfl, by go_num⟩
        case measure => simp [intOf]; omega
    · go_wp2_with fail
      go_ret2
      exact ⟨ret2_int (codeOf_ge (by omega)).symm rfl, HB.out⟩

set_option maxHeartbeats 1000000 in
theorem code_fault (a : Nat → Addr) (pb : Nat) (n : Int) (k : Nat) (hk : k < 8) (w : World) (h : Errs w a) (hpb : pb < w.heap.size)
    (hn : w.cell? ⟨pb, 0, none⟩ = some (.int .i64 n)) (he : w.cell? ⟨pb, 1, none⟩ = some (.iface 149 (.pointer (some (a k))))) :
    Calls Tryd.prog 30 #[.iface 86 (.pointer (some ⟨pb, 0, none⟩))] w fun e w' => e = .returned (.tuple #[.int .i64 ((k : Int) + 1), .int .i64 n]) ∧ Below w.heap.size w w' := by
  have h1 : Errs (w.alloc (.cells #[.pointer none] 86)) a := h.below ((Below.refl _ _).alloc (Nat.le_refl _) _)
  have hAs := as_hit ⟨pb, 0, none⟩ ⟨w.heap.size, 0, none⟩ (.pointer none) (w.alloc (.cells #[.pointer none] 86)) h1.et (by simp) (by simp)
  go_enter Tryd.func30, Tryd.ntmps30
  go_wp2_with fail
  refine hAs.mono ?_
  clear hAs
  rintro e w1 ⟨rfl, hw1⟩
  have hb1 : Below w.heap.size w w1 := by
    rw [hw1]
    exact (((((((Below.refl _ _).alloc (Nat.le_refl _) _).alloc (by simp) _).alloc (by simp; omega) _).alloc (by simp; omega) _).alloc (by simp; omega) _).setCell (by simp) _)
  have hf1 : w1.cell? ⟨w.heap.size, 0, none⟩ = some (.pointer (some ⟨pb, 0, none⟩)) := by
    rw [hw1]
    refine World.cell?_setCell_same _ _ _ (u := .pointer none) ?_
    rw [World.cell?_alloc_lt _ _ ⟨w.heap.size, 0, none⟩ (by simp; omega), World.cell?_alloc_lt _ _ ⟨w.heap.size, 0, none⟩ (by simp; omega), World.cell?_alloc_lt _ _ ⟨w.heap.size, 0, none⟩ (by simp; omega), World.cell?_alloc_lt _ _ ⟨w.heap.size, 0, none⟩ (by simp)]
    rw [World.cell?_alloc_at _ _ _ _ rfl]; rfl
  clear hw1
  have hn1 : w1.cell? ⟨pb, 0, none⟩ = some (.int .i64 n) := by rw [hb1.cell (by exact hpb)]; exact hn
  have he1 : w1.cell? ⟨pb, 1, none⟩ = some (.iface 149 (.pointer (some (a k)))) := by rw [hb1.cell (by exact hpb)]; exact he
  have h2 := h.below hb1
  have d0 := h2.c0
  have d1 := h2.c1
  have d2 := h2.c2
  have d3 := h2.c3
  have d4 := h2.c4
  have d5 := h2.c5
  have d6 := h2.c6
  have d7 := h2.c7
  have h3 : Errs (w1.alloc (.cells (eight a) 29)) a := h2.below ((Below.refl _ _).alloc (Nat.le_refl _) _)
  have hb3 : Below w.heap.size w (w1.alloc (.cells (eight a) 29)) := hb1.alloc hb1.size _
  have he3 : (w1.alloc (.cells (eight a) 29)).cell? ⟨pb, 1, none⟩ = some (.iface 149 (.pointer (some (a k)))) := by rw [hb3.cell (by exact hpb)]; exact he
  have hcell := eight_cell a w1
  have H3 : Hid (Errs (w1.alloc (.cells (eight a) 29)) a) := h3
  have HE : Hid ((w1.alloc (.cells (eight a) 29)).cell? ⟨pb, 1, none⟩ = some (.iface 149 (.pointer (some (a k))))) := he3
  have HB : Hid (Below w.heap.size w (w1.alloc (.cells (eight a) 29))) := hb3
  have HC : Hid (∀ j, j < 8 → (w1.alloc (.cells (eight a) 29)).cell? ⟨w1.heap.size, j, none⟩ = some (.iface 149 (.pointer (some (a j))))) := hcell
  simp only [eight] at H3 HE HB HC
  clear h3 hb3 hcell hb1 h1 he3
  go_wp2_with fail
  clear d0 d1 d2 d3 d4 d5 d6 d7 h h2 hf1 hn1 he1 hn he hpb
  go_loop [3, 26] (fun s t => ∃ j : Nat, j ≤ k ∧ s = .int .i64 n ∧ t = .int .i64 j) (fun _ t => 8 - (intOf t).toNat)
  case atStart => exact ⟨0, Nat.zero_le _, rfl, rfl⟩
  case round =>
    obtain ⟨j, hj, rfl, rfl⟩ := hrel
    have hlt : j < 8 := by omega
    have hcj := HC.out j hlt
    obtain ⟨cj, tj, hrj⟩ := H3.out.row j hlt
    obtain ⟨ck, tk, hrk⟩ := H3.out.row k hk
    by_cases hjk : j = k
    · subst hjk
      clear hrj hrk
      go_wp2_with (first | (go_at_call 57; refine (is_fault_same _ _ _ _ HE.out).mono ?_; rintro e w' ⟨rfl, rfl⟩))
      go_ret2
      exact ⟨rfl, HB.out⟩
    · have hnj := H3.out.ne k j hk hlt (by omega)
      have HR : Hid ((w1.alloc (.cells (eight a) 29)).heap[(a j).block]? = some (.cells cj tj (0, 0))) := hrj
      have HK : Hid ((w1.alloc (.cells (eight a) 29)).heap[(a k).block]? = some (.cells ck tk (0, 0))) := hrk
      simp only [eight] at HR HK
      clear hrj hrk
      go_wp2_with (first | (go_at_call 57; refine (is_fault_other _ _ _ _ _ _ _ _ _ HE.out hnj HK.out HR.out).mono ?_; rintro e w' ⟨rfl, rfl⟩))
      go_round
      case rel => exact ⟨j + 1, by omega, rfl, by go_num⟩
      case measure => simp [intOf]; omega

/-- coded by the code. -/
theorem coded_nil (c : Int) (w : World) : Calls Tryd.prog 12 #[.nilIface, .int .i64 c] w fun e w' => e = .returned (.bool (decide (c = 0))) ∧ w' = w := by
  by_cases hc : c = 0
  · subst hc
    go_enter Tryd.func12, Tryd.ntmps12
    go_wp2_with (go_at_call 30; refine (code_nil _).mono ?_; rintro e w' ⟨rfl, rfl⟩)
    go_ret
    exact ⟨rfl, rfl⟩
  · have h0 : ((0 : Int) == c) = false := by simp; omega
    have h1 : decide (c = 0) = false := by simp [hc]
    rw [h1]
    clear h1 hc
    go_enter Tryd.func12, Tryd.ntmps12
    go_wp2_with (go_at_call 30; refine (code_nil _).mono ?_; rintro e w' ⟨rfl, rfl⟩)
    go_ret
    exact ⟨rfl, rfl⟩

theorem coded_err (a : Nat → Addr) (k : Nat) (hk : k < 8) (c : Int) (w : World) (h : Errs w a) :
    Calls Tryd.prog 12 #[.iface 149 (.pointer (some (a k))), .int .i64 c] w fun e w' => e = .returned (.bool (decide (c = (k : Int) + 1))) ∧ Below w.heap.size w w' := by
  have hcode := code_err a (a k) k (by omega) w h (h.row k hk) (fun j hj => h.ne k j hk (by omega) (by omega)) (fun _ => rfl)
  rw [codeOf_lt hk] at hcode
  by_cases hc : c = (k : Int) + 1
  · subst hc
    go_enter Tryd.func12, Tryd.ntmps12
    go_wp2_with fail
    refine hcode.mono ?_
    rintro e w' ⟨rfl, hb⟩
    go_wp2
    go_ret
    exact ⟨by simp, hb⟩
  · have h0 : ((k : Int) + 1 == c) = false := by simp; omega
    have h1 : decide (c = (k : Int) + 1) = false := by simp [hc]
    rw [h1]
    clear h1 hc
    go_enter Tryd.func12, Tryd.ntmps12
    go_wp2_with fail
    refine hcode.mono ?_
    rintro e w' ⟨rfl, hb⟩
    go_wp2
    go_ret
    exact ⟨rfl, hb⟩
end Go.Proofs.YtiegobkbinojeaaDoor
