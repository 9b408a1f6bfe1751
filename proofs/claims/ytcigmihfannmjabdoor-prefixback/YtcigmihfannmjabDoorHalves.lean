/- The closed fact at the head of chapter 4's laws: words of lengths 2, 1, 2. -/
import Derived.Test.YtcigmihfannmjabDoorCanonP
namespace Go.Proofs.YtcigmihfannmjabDoor
open Go.RowKit

/-- Texts in memory. -/
def TextsAt (w : World) (b o n : Nat) (f : Nat → ByteArray) : Prop := ∀ i, i < n → w.cell? ⟨b, o + i, none⟩ = some (.string (f i))
theorem TextsAt.later {w w' : World} {b o n : Nat} {f : Nat → ByteArray} (h : TextsAt w b o n f) (hb : Below w.heap.size w w') : TextsAt w' b o n f := fun i hi => by rw [hb.cell (cell_lt (h i hi))]; exact h i hi
set_option maxRecDepth 100000 in
theorem sameStrings_same (b1 o1 c1 b2 o2 c2 n : Nat) (f : Nat → ByteArray) (w : World) (hn : n ≤ 1000000) (h1 : TextsAt w b1 o1 n f) (h2 : TextsAt w b2 o2 n f) :
    Calls Tryd.prog 25 #[.slice (some ⟨b1, o1, none⟩) n c1, .slice (some ⟨b2, o2, none⟩) n c2] w fun e w' => e = .returned (.bool true) ∧ Below w.heap.size w w' := by
  have H1 := Hid.mk' h1
  have H2 := Hid.mk' h2
  clear h1 h2
  go_enter Tryd.func25, Tryd.ntmps25
  go_wp2_with fail
  go_loopw [5] (fun t wr => ∃ i m : Nat, i ≤ n ∧ t = .int .i64 i ∧ wr = w.drewN m) (fun t _ => n - (intOf t).toNat)
  case atStart => exact ⟨0, 0, Nat.zero_le _, rfl, rfl⟩
  case round =>
    obtain ⟨i, m, hi, rfl, rfl⟩ := hrel
    rcases Nat.lt_or_ge i n with h1 | h1
    · have hiI : (i : Int) < (n : Int) := by omega
      have hi0 : (0 : Int) ≤ (i : Int) := by omega
      have y0 := H1.out i h1
      have y1 := H2.out i h1
      generalize f i = x at *
      go_wp2_with fail
      go_quiet (fail)
      go_wp2_with fail
      exact ⟨⟨i + 1, _, h1, by go_num, rfl⟩, by simp [intOf]; omega⟩
    · obtain rfl : n = i := by omega
      go_wp2_with fail
      go_ret
      exact ⟨rfl, below_drewN (Below.refl _ _) _⟩

def halfZ (i : Nat) : Int := if i = 1 then 1 else 2
def halfB (i : Nat) : ByteArray := if i = 0 then ⟨#[49, 48]⟩ else if i = 1 then ⟨#[48]⟩ else ⟨#[49, 49]⟩
theorem half_ok : lenErr 3 halfZ = 0 := by decide
theorem half_sum : shareSum halfZ 3 ≤ 1099511627776 := by decide
theorem half_ord : ordL halfZ 3 40 = [1, 0, 2] := by decide +kernel
theorem half_word (i : Nat) (hi : i < 3) : strV (wordsN halfZ (ordL halfZ 3 40) 3 i) = .string (halfB i) := by
  have e0 : wordsN halfZ [1, 0, 2] 3 0 = [49, 48] := by decide +kernel
  have e1 : wordsN halfZ [1, 0, 2] 3 1 = [48] := by decide +kernel
  have e2 : wordsN halfZ [1, 0, 2] 3 2 = [49, 49] := by decide +kernel
  rw [half_ord]
  rcases (show i = 0 ∨ i = 1 ∨ i = 2 by omega) with rfl | rfl | rfl
  · rw [e0]; rfl
  · rw [e1]; rfl
  · rw [e2]; rfl
set_option maxRecDepth 100000 in
theorem halves_any (a : Nat → Addr) (w : World) (hE : Errs w a) (hd : w.cell? ⟨14, 1, none⟩ = some (.int .u8 1)) :
    Calls Tryd.prog 8 #[] w fun e w' => e = .returned (.bool true) ∧ Below w.heap.size w w' := by
  obtain ⟨W, hW⟩ : ∃ W, W = w.alloc (.cells #[.int .i64 2, .int .i64 1, .int .i64 2] 3) := ⟨_, rfl⟩
  have hb0 : Below w.heap.size w W := by rw [hW]; exact (Below.refl _ _).alloc (Nat.le_refl _) _
  have hrow : NumsAt W (.slice (some ⟨w.heap.size, 0, none⟩) 3 3) 3 halfZ := by
    refine Or.inr ⟨_, _, _, rfl, by decide, fun i hi => ?_⟩
    rw [hW, World.cell?_alloc_at _ _ _ _ rfl]
    rcases (show i = 0 ∨ i = 1 ∨ i = 2 by omega) with rfl | rfl | rfl <;> rfl
  have hcan := Canon_ok a _ 3 halfZ W (hE.below hb0) (by rw [hb0.cell (cell_lt hd)]; exact hd) hrow half_ok half_sum
  rw [hW] at hcan hb0
  have HB0 := Hid.mk' hb0
  clear hW hrow hE hd hb0
  go_enter Tryd.func8, Tryd.ntmps8
  go_wp2_with fail
  refine hcan.mono ?_
  clear hcan
  rintro e w1 ⟨g, rfl, hr, hb1⟩
  have HB1 := Hid.mk' (below_chain HB0.out hb1)
  have ht1 : TextsAt w1 g 0 3 halfB := fun i hi => by rw [Nat.zero_add, hr.row i hi, half_word i hi]
  have hsame := sameStrings_same g 0 3 w1.heap.size 0 3 3 halfB (w1.alloc (.cells #[.string ⟨#[49, 48]⟩, .string ⟨#[48]⟩, .string ⟨#[49, 49]⟩] 9)) (by decide) (ht1.later ((Below.refl _ _).alloc (Nat.le_refl _) _)) (fun i hi => by
    rw [World.cell?_alloc_at _ _ _ _ rfl]
    rcases (show i = 0 ∨ i = 1 ∨ i = 2 by omega) with rfl | rfl | rfl <;> rfl)
  clear hr hb1 ht1
  go_wp2_with fail
  refine hsame.mono ?_
  clear hsame
  rintro e w2 ⟨rfl, hb2⟩
  go_wp2_with fail
  go_ret
  exact ⟨rfl, below_chain (HB1.out.alloc HB1.out.size _) hb2⟩
end Go.Proofs.YtcigmihfannmjabDoor
