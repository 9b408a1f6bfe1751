/- ising.eachBond: a function is told each bond of a grid, in order. -/
import Derived.Test.YtoghnbcjkgookabDoorIsStrB
namespace Go.Proofs.YtoghnbcjkgookabDoor
open Go.RowKit

set_option maxRecDepth 100000 in
set_option maxHeartbeats 8000000 in
theorem eachBond_any (A B : Nat → Nat → Nat × Nat) (Inv : List (Nat × Nat) → World → Prop) (K : Nat) (cap : Array Value) (h l : Nat)
    (hent : ∀ (args : Array Value) (w : World), (callFunc K args).run Tryd.prog w = .ok (.enter K args) w)
    (hh : h ≤ 4) (hl : l ≤ 12)
    (ht : ∀ (E : List (Nat × Nat)) (c r : Nat) (d : Bool) (W : World), Inv E W → E.length ≤ 97 → c < l → r < h → (d = true → r + 1 < h) → (d = false → c + 1 < l) → Calls Tryd.prog K (#[.int .i64 (c : Nat), .int .i64 (r : Nat), .bool d] ++ cap) W fun e W' => e = .returned (.tuple #[]) ∧ Inv (E ++ [if d then A c r else B c r]) W')
    (W : World) (hI : Inv [] W) :
    Calls Tryd.prog 11 #[.int .i64 h, .int .i64 l, .func (.func K) #[] cap] W fun e W' => e = .returned (.tuple #[]) ∧ Inv (allB A B h (fun c => decide (c + 1 < l)) l) W' := by
  have HI := Hid.mk' hI
  have HT := Hid.mk' ht
  have hhI : (h : Int) ≤ 4 := by omega
  have hlI : (l : Int) ≤ 12 := by omega
  have hh0 : (0 : Int) ≤ (h : Int) := by omega
  have hl0 : (0 : Int) ≤ (l : Int) := by omega
  clear hI ht
  go_enter Tryd.func11, Tryd.ntmps11
  go_wp2_with fail
  go_loopw [9] (fun t wr => ∃ (c : Nat), c ≤ l ∧ t = .int .i64 c ∧ Hid (Inv (allB A B h (fun c => decide (c + 1 < l)) c) wr)) (fun t _ => l - (intOf t).toNat)
  case atStart => exact ⟨0, Nat.zero_le _, rfl, HI⟩
  case round =>
    clear HI
    obtain ⟨c, hc, rfl, HI⟩ := hrel
    have hc0 : (0 : Int) ≤ (c : Int) := by omega
    rcases Nat.lt_or_ge c l with h1 | h1
    · have hcI : (c : Int) < (l : Int) := by omega
      have HE : Hid (allB A B h (fun c => decide (c + 1 < l)) (c + 1) = allB A B h (fun c => decide (c + 1 < l)) c ++ colB A B h (fun c => decide (c + 1 < l)) c h) := rfl
      have HLE : Hid (∀ r, r ≤ h → (allB A B h (fun c => decide (c + 1 < l)) c ++ colB A B h (fun c => decide (c + 1 < l)) c r).length ≤ 96) := fun r hr => part_small _ _ _ hh (by omega) hr
      generalize allB A B h (fun c => decide (c + 1 < l)) c = E0 at *
      rename World => wo
      go_wp2_with fail
      go_loopw [13] (fun t wr => ∃ (r : Nat), r ≤ h ∧ t = .int .i64 r ∧ Hid (Inv (E0 ++ colB A B h (fun c => decide (c + 1 < l)) c r) wr)) (fun t _ => h - (intOf t).toNat)
      case atStart => exact ⟨0, Nat.zero_le _, rfl, by show Inv _ _; rw [colB, List.append_nil]; exact HI.out⟩
      case round =>
        clear HI
        obtain ⟨r, hr, rfl, HI⟩ := hrel
        have hr0 : (0 : Int) ≤ (r : Int) := by omega
        rcases Nat.lt_or_ge r h with h2 | h2
        · have hrI : (r : Int) < (h : Int) := by omega
          have HN : Hid (E0 ++ colB A B h (fun c => decide (c + 1 < l)) c (r + 1) = E0 ++ colB A B h (fun c => decide (c + 1 < l)) c r ++ ((if r + 1 < h then [A c r] else []) ++ (if decide (c + 1 < l) then [B c r] else []))) := by
            show _ = _
            rw [colB, cellB, List.append_assoc]
          have hle := HLE.out r (by omega)
          generalize E0 ++ colB A B h (fun c => decide (c + 1 < l)) c r = E at *
          have HQ : Hid (∀ F V, Inv F V → F.length ≤ 97 → (c + 1 < l → Calls Tryd.prog K (#[.int .i64 (c : Nat), .int .i64 (r : Nat), .bool false] ++ cap) V fun e W' => e = .returned (.tuple #[]) ∧ Inv (F ++ [B c r]) W')) := fun F V hF hFl hq => HT.out F c r false V hF hFl h1 h2 (fun e => by cases e) (fun _ => hq)
          by_cases hd : r + 1 < h
          · have hdI : (r : Int) < (h : Int) - 1 := by omega
            have HC1 := Hid.mk' (HT.out E c r true wr HI.out (by omega) h1 h2 (fun _ => hd) (fun e => by cases e))
            rw [if_pos rfl] at HC1
            go_wp2_with fail
            refine HC1.out.mono ?_
            rintro e w3 ⟨rfl, hI3⟩
            have HI3 := Hid.mk' hI3
            clear hI3 HC1 HI
            by_cases hq : c + 1 < l
            · have hqI : (c : Int) < (l : Int) - 1 := by omega
              have HC2 := Hid.mk' (HQ.out _ w3 HI3.out (by rw [List.length_append]; simp; omega) hq)
              go_wp2_with fail
              refine HC2.out.mono ?_
              rintro e w4 ⟨rfl, hI4⟩
              have HI4 := Hid.mk' hI4
              clear hI4 HC2 HI3
              go_wp2_with fail
              refine ⟨⟨r + 1, h2, by go_num, ?_⟩, by simp [intOf]; omega⟩
              rw [HN.out, if_pos hd, if_pos (decide_eq_true hq), ← List.append_assoc]
              exact HI4
            · have hqI : ¬ (c : Int) < (l : Int) - 1 := by omega
              go_wp2_with fail
              refine ⟨⟨r + 1, h2, by go_num, ?_⟩, by simp [intOf]; omega⟩
              rw [HN.out, if_pos hd, if_neg (by rw [decide_eq_false hq]; decide), List.append_nil]
              exact HI3
          · have hdI : ¬ (r : Int) < (h : Int) - 1 := by omega
            by_cases hq : c + 1 < l
            · have hqI : (c : Int) < (l : Int) - 1 := by omega
              have HC2 := Hid.mk' (HQ.out _ wr HI.out (by omega) hq)
              go_wp2_with fail
              refine HC2.out.mono ?_
              rintro e w4 ⟨rfl, hI4⟩
              have HI4 := Hid.mk' hI4
              clear hI4 HC2 HI
              go_wp2_with fail
              refine ⟨⟨r + 1, h2, by go_num, ?_⟩, by simp [intOf]; omega⟩
              rw [HN.out, if_neg hd, if_pos (decide_eq_true hq), List.nil_append]
              exact HI4
            · have hqI : ¬ (c : Int) < (l : Int) - 1 := by omega
              go_wp2_with fail
              refine ⟨⟨r + 1, h2, by go_num, ?_⟩, by simp [intOf]; omega⟩
              rw [HN.out, if_neg hd, if_neg (by rw [decide_eq_false hq]; decide), List.append_nil, List.append_nil]
              exact HI
        · obtain rfl : r = h := by omega
          go_wp2_with fail
          exact ⟨⟨c + 1, h1, by go_num, by rw [HE.out]; exact HI⟩, by simp [intOf]; omega⟩
    · obtain rfl : c = l := by omega
      go_wp2_with fail
      go_end0
      exact ⟨rfl, HI.out⟩
end Go.Proofs.YtoghnbcjkgookabDoor
