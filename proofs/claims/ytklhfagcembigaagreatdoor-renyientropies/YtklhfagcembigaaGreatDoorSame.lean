/- SameLog at two that are the same; eighth. -/
import Derived.Test.YtklhfagcembigaaGreatDoorPut8
namespace Go.Proofs.YtklhfagcembigaaGreatDoor
open Go.RowKit Go.Maps

theorem TermsAt.later {w w' : World} {b o n : Nat} {p c : Nat → Int} (h : TermsAt w b o n p c) (hb : Below w.heap.size w w') : TermsAt w' b o n p c := fun k hk =>
  ⟨by rw [hb.cell (cell_lt (h k hk).1)]; exact (h k hk).1, by rw [hb.cell (cell_lt (h k hk).2)]; exact (h k hk).2⟩

set_option maxRecDepth 100000 in
set_option maxHeartbeats 1000000 in
theorem SameLog_some (den : Int) (b1 o1 c1 b2 o2 c2 n : Nat) (p c : Nat → Int) (w : World) (h1 : TermsAt w b1 o1 n p c) (h2 : TermsAt w b2 o2 n p c) (hn : n ≤ 1000000) :
    Calls Tryz.prog 30 #[.agg #[.int .i64 den, .slice (some ⟨b1, o1, none⟩) n c1], .agg #[.int .i64 den, .slice (some ⟨b2, o2, none⟩) n c2]] w fun e w' => e = .returned (.bool true) ∧ Below w.heap.size w w' := by
  have hb : Below w.heap.size w ((w.alloc (.cells #[.int .i64 den, .slice (some ⟨b1, o1, none⟩) n c1] 27)).alloc (.cells #[.int .i64 den, .slice (some ⟨b2, o2, none⟩) n c2] 27)) := ((Below.refl _ _).alloc (Nat.le_refl _) _).alloc (by simp) _
  have H1 := Hid.mk' (h1.later hb)
  have H2 := Hid.mk' (h2.later hb)
  have HB := Hid.mk' hb
  have x1 : ((w.alloc (.cells #[.int .i64 den, .slice (some ⟨b1, o1, none⟩) n c1] 27)).alloc (.cells #[.int .i64 den, .slice (some ⟨b2, o2, none⟩) n c2] 27)).cell? ⟨w.heap.size, 1, none⟩ = some (.slice (some ⟨b1, o1, none⟩) n c1) := by simp
  have x2 : ((w.alloc (.cells #[.int .i64 den, .slice (some ⟨b1, o1, none⟩) n c1] 27)).alloc (.cells #[.int .i64 den, .slice (some ⟨b2, o2, none⟩) n c2] 27)).cell? ⟨w.heap.size + 1, 1, none⟩ = some (.slice (some ⟨b2, o2, none⟩) n c2) := by simp
  have X1 := Hid.mk' x1
  have X2 := Hid.mk' x2
  clear h1 h2 hb x1 x2
  go_enter Tryz.func30, Tryz.ntmps30
  go_wp2_with fail
  obtain ⟨W, hW⟩ : ∃ W, W = ((w.alloc (.cells #[.int .i64 den, .slice (some ⟨b1, o1, none⟩) n c1] 27)).alloc (.cells #[.int .i64 den, .slice (some ⟨b2, o2, none⟩) n c2] 27)) := ⟨_, rfl⟩
  rw [← hW] at H1 H2 HB X1 X2 ⊢
  clear hW
  go_loopw [5] (fun i wr => ∃ k m : Nat, k ≤ n ∧ i = .int .i64 k ∧ wr = W.drewN m) (fun i _ => n - (intOf i).toNat)
  case atStart => exact ⟨0, 0, Nat.zero_le _, rfl, rfl⟩
  case round =>
    obtain ⟨k, m, hk, rfl, rfl⟩ := hrel
    have x1 := X1.out
    have x2 := X2.out
    have hk0 : (0 : Int) ≤ (k : Int) := by omega
    by_cases hlt : k < n
    · have hkn : (k : Int) < (n : Int) := by omega
      have y1 := (H1.out k hlt).1
      have y2 := (H1.out k hlt).2
      have y3 := (H2.out k hlt).1
      have y4 := (H2.out k hlt).2
      go_wp2_with fail
      go_quiet (fail)
      go_wp2_with fail
      exact ⟨⟨k + 1, m + nq, by omega, by go_num, rfl⟩, by simp [intOf]; omega⟩
    · go_wp2_with fail
      go_ret
      exact ⟨rfl, below_drewN HB.out m⟩

theorem SameLog_none (den : Int) (a1 a2 : Option Addr) (c1 c2 : Nat) (w : World) :
    Calls Tryz.prog 30 #[.agg #[.int .i64 den, .slice a1 0 c1], .agg #[.int .i64 den, .slice a2 0 c2]] w fun e w' => e = .returned (.bool true) ∧ Below w.heap.size w w' := by
  go_enter Tryz.func30, Tryz.ntmps30
  go_wp2_with fail
  refine wp_loop_rounds 1 ?_
  rw [rounds_succ]
  go_wp2_with fail
  go_ret
  exact ⟨rfl, ((Below.refl _ _).alloc (Nat.le_refl _) _).alloc (by simp) _⟩

end Go.Proofs.YtklhfagcembigaaGreatDoor
