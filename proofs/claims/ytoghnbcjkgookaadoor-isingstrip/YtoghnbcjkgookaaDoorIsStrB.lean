/- The document's StripBonds. -/
import Derived.Test.YtoghnbcjkgookaaDoorIsPair
namespace Go.Proofs.YtoghnbcjkgookaaDoor
open Go.RowKit

/-- A bond downward, and one to the next column. -/
def dnS (h c r : Nat) : Nat × Nat := (c * h + r, c * h + r + 1)
def rtS (h l c r : Nat) : Nat × Nat := (c * h + r, (c + 1) % l * h + r)
def onS (l : Nat) (ring : Bool) (c : Nat) : Bool := decide (c + 1 < l) || ring
def strB (h l : Nat) (ring : Bool) (c : Nat) : List (Nat × Nat) := allB (dnS h) (rtS h l) h (onS l ring) c

/-- What an append of a pair leaves. -/
theorem pair_own {w : World} {base : Nat} {v : Value} {E : List (Nat × Nat)} {x y : Int} {X Y : Nat} (h : w.ownsRow base 50 2 v (E.length + 1) (pairCells E ++ [.int .i64 x, .int .i64 y])) (hx : x = (X : Int)) (hy : y = (Y : Int)) : w.ownsRow base 50 2 v (E ++ [(X, Y)]).length (pairCells (E ++ [(X, Y)])) := by
  subst hx hy
  rw [pairCells_snoc, List.length_append]
  exact h

set_option maxRecDepth 100000 in
set_option maxHeartbeats 8000000 in
theorem StripBonds_any (h l : Nat) (ring : Bool) (w : World) (hh1 : 1 ≤ h) (hh : h ≤ 4) (hl1 : 1 ≤ l) (hl : l ≤ 12) :
    Calls Tryd.prog 23 #[.int .i64 h, .int .i64 l, .bool ring] w fun e w' => ∃ v, e = .returned v ∧ w'.ownsRow w.heap.size 50 2 v (strB h l ring l).length (pairCells (strB h l ring l)) ∧ Below w.heap.size w w' := by
  obtain ⟨i0, hi, hi2⟩ := Option.map_eq_some_iff.1 Tryd.infoPair
  obtain ⟨hz, hsz, hby⟩ : i0.zero = some (.agg #[.int .i64 0, .int .i64 0]) ∧ i0.size = 2 ∧ i0.bytes = 16 := by simpa using hi2
  have HINF : Hid (Tryd.prog.info? 50 = some i0 ∧ i0.zero = some (.agg #[.int .i64 0, .int .i64 0]) ∧ i0.size = 2 ∧ i0.bytes = 16) := ⟨hi, hz, hsz, hby⟩
  clear hi hi2 hz hsz hby
  have hhI : (h : Int) ≤ 4 := by omega
  have hlI : (l : Int) ≤ 12 := by omega
  have hh0 : (1 : Int) ≤ (h : Int) := by omega
  have hl0 : (1 : Int) ≤ (l : Int) := by omega
  go_enter Tryd.func23, Tryd.ntmps23
  go_wp2_with fail
  go_loopw [7, 8] (fun u t wr => ∃ (c : Nat), c ≤ l ∧ t = .int .i64 c ∧ Hid (wr.ownsRow w.heap.size 50 2 u (strB h l ring c).length (pairCells (strB h l ring c))) ∧ Hid (Below w.heap.size w wr)) (fun _ t _ => l - (intOf t).toNat)
  case atStart => exact ⟨0, Nat.zero_le _, rfl, ⟨rfl, Or.inl ⟨rfl, rfl⟩⟩, Below.refl _ _⟩
  case round =>
    obtain ⟨c, hc, rfl, HO, HB⟩ := hrel
    have hc0 : (0 : Int) ≤ (c : Int) := by omega
    rcases Nat.lt_or_ge c l with h1 | h1
    · have hcI : (c : Int) < (l : Int) := by omega
      obtain ⟨X, hX⟩ : ∃ X : Nat, X = c * h := ⟨_, rfl⟩
      have hX44 : X ≤ 44 := by rw [hX]; exact Nat.mul_le_mul (show c ≤ 11 by omega) hh
      have hXI : (c : Int) * (h : Int) = (X : Int) := by rw [hX]; simp
      obtain ⟨Y, hY⟩ : ∃ Y : Nat, Y = (c + 1) % l := ⟨_, rfl⟩
      have hY11 : Y ≤ 11 := by have := Nat.mod_lt (c + 1) (show 0 < l by omega); omega
      have hYt : ((c : Int) + 1).tmod (l : Int) = (Y : Int) := by
        rw [hY, Int.tmod_eq_emod_of_nonneg (by omega)]
        simp
      obtain ⟨Z, hZ⟩ : ∃ Z : Nat, Z = Y * h := ⟨_, rfl⟩
      have hZ44 : Z ≤ 44 := by rw [hZ]; exact Nat.mul_le_mul hY11 hh
      have hZI : (Y : Int) * (h : Int) = (Z : Int) := by rw [hZ]; simp
      have HDN : Hid (∀ r, dnS h c r = (X + r, X + r + 1)) := fun r => by rw [dnS, ← hX]
      have HRT : Hid (∀ r, rtS h l c r = (X + r, Z + r)) := fun r => by rw [rtS, ← hX, ← hY, ← hZ]
      have HE : Hid (strB h l ring (c + 1) = strB h l ring c ++ colB (dnS h) (rtS h l) h (onS l ring) c h) := rfl
      have HLE : Hid (∀ r, r ≤ h → (strB h l ring c ++ colB (dnS h) (rtS h l) h (onS l ring) c r).length ≤ 96) := fun r hr => part_small _ _ _ hh (by omega) hr
      clear hX hY hZ
      generalize strB h l ring c = E0 at *
      rename World => wo
      go_wp2_with fail
      go_loopw [7, 9] (fun u t wr => ∃ (r : Nat), r ≤ h ∧ t = .int .i64 r ∧ Hid (wr.ownsRow w.heap.size 50 2 u (E0 ++ colB (dnS h) (rtS h l) h (onS l ring) c r).length (pairCells (E0 ++ colB (dnS h) (rtS h l) h (onS l ring) c r))) ∧ Hid (Below w.heap.size w wr)) (fun _ t _ => h - (intOf t).toNat)
      case atStart => exact ⟨0, Nat.zero_le _, rfl, by show World.ownsRow _ _ _ _ _ _ _; rw [colB, List.append_nil]; exact HO.out, HB⟩
      case round =>
        clear HO HB
        obtain ⟨r, hr, rfl, HO, HB⟩ := hrel
        have hr0 : (0 : Int) ≤ (r : Int) := by omega
        rcases Nat.lt_or_ge r h with h2 | h2
        · have hrI : (r : Int) < (h : Int) := by omega
          have HN : Hid (E0 ++ colB (dnS h) (rtS h l) h (onS l ring) c (r + 1) = E0 ++ colB (dnS h) (rtS h l) h (onS l ring) c r ++ ((if r + 1 < h then [(X + r, X + r + 1)] else []) ++ (if onS l ring c then [(X + r, Z + r)] else []))) := by
            show _ = _
            rw [colB, cellB, HDN.out r, HRT.out r, List.append_assoc]
          have hle := HLE.out r (by omega)
          generalize E0 ++ colB (dnS h) (rtS h l) h (onS l ring) c r = E at *
          by_cases hd : r + 1 < h
          · have hdI : (r : Int) + 1 < (h : Int) := by omega
            by_cases hq : c + 1 < l
            · have hqI : (c : Int) + 1 < (l : Int) := by omega
              have hon : onS l ring c = true := by rw [onS, decide_eq_true hq, Bool.true_or]
              have HON := Hid.mk' hon
              clear hon
              go_upto_region 10 with (at_builtin; go_must (refine wpList_append_lies _ rfl _ _ _ rfl w.heap.size 50 i0 _ 2 16 Tryd.underlying22 HINF.out.1 HINF.out.2.1 HINF.out.2.2.1 HINF.out.2.2.2 rfl (by omega) u7 _ _ rfl (HO.out.alloc _) ⟨wr.heap.size, 0, none⟩ 1 1 [.int .i64 ((X : Int) + (r : Int)), .int .i64 ((X : Int) + (r : Int) + 1)] rfl rfl (two_newG _ _ _ _) (by simp [Value.oneCell']) (by omega) (by unfold maxLen; omega) (by omega) (by have := HB.out.size; simp; omega) _ rfl ?_; intro g4 cap4 w4 hown hgrow hat hlt; have HO4 := Hid.mk' hown; have HB4 := Hid.mk' ((HB.out.alloc HB.out.size _).grown hgrow (by have := HB.out.size; simp; omega) (fun k e => (HO.out.lt k e).1)); clear hown hgrow hat hlt))
              have HP4 := Hid.mk' (pair_own (X := X + r) (Y := X + r + 1) HO4.out (by simp) (by simp))
              have hle4 : (E ++ [(X + r, X + r + 1)]).length ≤ 97 := by rw [List.length_append]; simp; omega
              have HL4 : Hid (E.length + 1 = (E ++ [(X + r, X + r + 1)]).length) := by show _ = _; rw [List.length_append]; rfl
              rw [HL4.out]
              rw [HL4.out] at HP4
              have HE4 : Hid (∀ F, E ++ ([(X + r, X + r + 1)] ++ F) = (E ++ [(X + r, X + r + 1)]) ++ F) := fun F => (List.append_assoc _ _ _).symm
              generalize E ++ [(X + r, X + r + 1)] = E4 at *
              clear HO4 HO HB
              go_wp2_with (at_builtin; go_must (refine wpList_append_lies _ rfl _ _ _ rfl w.heap.size 50 i0 _ 2 16 Tryd.underlying22 HINF.out.1 HINF.out.2.1 HINF.out.2.2.1 HINF.out.2.2.2 rfl (by omega) (.slice (some ⟨g4, 0, none⟩) E4.length cap4) _ _ rfl (HP4.out.alloc _) ⟨w4.heap.size, 0, none⟩ 1 1 [.int .i64 ((X : Int) + (r : Int)), .int .i64 ((Z : Int) + (r : Int))] rfl rfl (two_newG _ _ _ _) (by simp [Value.oneCell']) (by omega) (by unfold maxLen; omega) (by omega) (by have := HB4.out.size; simp; omega) _ rfl ?_; intro g5 cap5 w5 hown hgrow hat hlt; have HO5 := Hid.mk' hown; have HB5 := Hid.mk' ((HB4.out.alloc HB4.out.size _).grown hgrow (by have := HB4.out.size; simp; omega) (fun k e => (HP4.out.lt k e).1)); clear hown hgrow hat hlt))
              refine ⟨⟨r + 1, h2, by go_num, ?_, HB5⟩, by simp [intOf]; omega⟩
              rw [HN.out, if_pos hd, if_pos HON.out, HE4.out]
              exact pair_own (X := X + r) (Y := Z + r) HO5.out (by simp) (by simp)
            · have hqI : ¬ (c : Int) + 1 < (l : Int) := by omega
              cases ring with
              | true =>
                have hon : onS l true c = true := by rw [onS, Bool.or_true]
                have HON := Hid.mk' hon
                clear hon
                go_upto_region 10 with (at_builtin; go_must (refine wpList_append_lies _ rfl _ _ _ rfl w.heap.size 50 i0 _ 2 16 Tryd.underlying22 HINF.out.1 HINF.out.2.1 HINF.out.2.2.1 HINF.out.2.2.2 rfl (by omega) u7 _ _ rfl (HO.out.alloc _) ⟨wr.heap.size, 0, none⟩ 1 1 [.int .i64 ((X : Int) + (r : Int)), .int .i64 ((X : Int) + (r : Int) + 1)] rfl rfl (two_newG _ _ _ _) (by simp [Value.oneCell']) (by omega) (by unfold maxLen; omega) (by omega) (by have := HB.out.size; simp; omega) _ rfl ?_; intro g4 cap4 w4 hown hgrow hat hlt; have HO4 := Hid.mk' hown; have HB4 := Hid.mk' ((HB.out.alloc HB.out.size _).grown hgrow (by have := HB.out.size; simp; omega) (fun k e => (HO.out.lt k e).1)); clear hown hgrow hat hlt))
                have HP4 := Hid.mk' (pair_own (X := X + r) (Y := X + r + 1) HO4.out (by simp) (by simp))
                have hle4 : (E ++ [(X + r, X + r + 1)]).length ≤ 97 := by rw [List.length_append]; simp; omega
                have HL4 : Hid (E.length + 1 = (E ++ [(X + r, X + r + 1)]).length) := by show _ = _; rw [List.length_append]; rfl
                rw [HL4.out]
                rw [HL4.out] at HP4
                have HE4 : Hid (∀ F, E ++ ([(X + r, X + r + 1)] ++ F) = (E ++ [(X + r, X + r + 1)]) ++ F) := fun F => (List.append_assoc _ _ _).symm
                generalize E ++ [(X + r, X + r + 1)] = E4 at *
                clear HO4 HO HB
                go_wp2_with (at_builtin; go_must (refine wpList_append_lies _ rfl _ _ _ rfl w.heap.size 50 i0 _ 2 16 Tryd.underlying22 HINF.out.1 HINF.out.2.1 HINF.out.2.2.1 HINF.out.2.2.2 rfl (by omega) (.slice (some ⟨g4, 0, none⟩) E4.length cap4) _ _ rfl (HP4.out.alloc _) ⟨w4.heap.size, 0, none⟩ 1 1 [.int .i64 ((X : Int) + (r : Int)), .int .i64 ((Z : Int) + (r : Int))] rfl rfl (two_newG _ _ _ _) (by simp [Value.oneCell']) (by omega) (by unfold maxLen; omega) (by omega) (by have := HB4.out.size; simp; omega) _ rfl ?_; intro g5 cap5 w5 hown hgrow hat hlt; have HO5 := Hid.mk' hown; have HB5 := Hid.mk' ((HB4.out.alloc HB4.out.size _).grown hgrow (by have := HB4.out.size; simp; omega) (fun k e => (HP4.out.lt k e).1)); clear hown hgrow hat hlt))
                refine ⟨⟨r + 1, h2, by go_num, ?_, HB5⟩, by simp [intOf]; omega⟩
                rw [HN.out, if_pos hd, if_pos HON.out, HE4.out]
                exact pair_own (X := X + r) (Y := Z + r) HO5.out (by simp) (by simp)
              | false =>
                have hon : onS l false c = false := by rw [onS, decide_eq_false hq, Bool.false_or]
                have HON := Hid.mk' hon
                clear hon
                go_wp2_with (at_builtin; go_must (refine wpList_append_lies _ rfl _ _ _ rfl w.heap.size 50 i0 _ 2 16 Tryd.underlying22 HINF.out.1 HINF.out.2.1 HINF.out.2.2.1 HINF.out.2.2.2 rfl (by omega) u7 _ _ rfl (HO.out.alloc _) ⟨wr.heap.size, 0, none⟩ 1 1 [.int .i64 ((X : Int) + (r : Int)), .int .i64 ((X : Int) + (r : Int) + 1)] rfl rfl (two_newG _ _ _ _) (by simp [Value.oneCell']) (by omega) (by unfold maxLen; omega) (by omega) (by have := HB.out.size; simp; omega) _ rfl ?_; intro g4 cap4 w4 hown hgrow hat hlt; have HO4 := Hid.mk' hown; have HB4 := Hid.mk' ((HB.out.alloc HB.out.size _).grown hgrow (by have := HB.out.size; simp; omega) (fun k e => (HO.out.lt k e).1)); clear hown hgrow hat hlt))
                refine ⟨⟨r + 1, h2, by go_num, ?_, HB4⟩, by simp [intOf]; omega⟩
                rw [HN.out, if_pos hd, if_neg (by rw [HON.out]; decide), List.append_nil]
                exact pair_own (X := X + r) (Y := X + r + 1) HO4.out (by simp) (by simp)
          · have hdI : ¬ (r : Int) + 1 < (h : Int) := by omega
            by_cases hq : c + 1 < l
            · have hqI : (c : Int) + 1 < (l : Int) := by omega
              have hon : onS l ring c = true := by rw [onS, decide_eq_true hq, Bool.true_or]
              have HON := Hid.mk' hon
              clear hon
              go_wp2_with (at_builtin; go_must (refine wpList_append_lies _ rfl _ _ _ rfl w.heap.size 50 i0 _ 2 16 Tryd.underlying22 HINF.out.1 HINF.out.2.1 HINF.out.2.2.1 HINF.out.2.2.2 rfl (by omega) u7 _ _ rfl (HO.out.alloc _) ⟨wr.heap.size, 0, none⟩ 1 1 [.int .i64 ((X : Int) + (r : Int)), .int .i64 ((Z : Int) + (r : Int))] rfl rfl (two_newG _ _ _ _) (by simp [Value.oneCell']) (by omega) (by unfold maxLen; omega) (by omega) (by have := HB.out.size; simp; omega) _ rfl ?_; intro g5 cap5 w5 hown hgrow hat hlt; have HO5 := Hid.mk' hown; have HB5 := Hid.mk' ((HB.out.alloc HB.out.size _).grown hgrow (by have := HB.out.size; simp; omega) (fun k e => (HO.out.lt k e).1)); clear hown hgrow hat hlt))
              refine ⟨⟨r + 1, h2, by go_num, ?_, HB5⟩, by simp [intOf]; omega⟩
              rw [HN.out, if_neg hd, if_pos HON.out, List.nil_append]
              exact pair_own (X := X + r) (Y := Z + r) HO5.out (by simp) (by simp)
            · have hqI : ¬ (c : Int) + 1 < (l : Int) := by omega
              cases ring with
              | true =>
                have hon : onS l true c = true := by rw [onS, Bool.or_true]
                have HON := Hid.mk' hon
                clear hon
                go_wp2_with (at_builtin; go_must (refine wpList_append_lies _ rfl _ _ _ rfl w.heap.size 50 i0 _ 2 16 Tryd.underlying22 HINF.out.1 HINF.out.2.1 HINF.out.2.2.1 HINF.out.2.2.2 rfl (by omega) u7 _ _ rfl (HO.out.alloc _) ⟨wr.heap.size, 0, none⟩ 1 1 [.int .i64 ((X : Int) + (r : Int)), .int .i64 ((Z : Int) + (r : Int))] rfl rfl (two_newG _ _ _ _) (by simp [Value.oneCell']) (by omega) (by unfold maxLen; omega) (by omega) (by have := HB.out.size; simp; omega) _ rfl ?_; intro g5 cap5 w5 hown hgrow hat hlt; have HO5 := Hid.mk' hown; have HB5 := Hid.mk' ((HB.out.alloc HB.out.size _).grown hgrow (by have := HB.out.size; simp; omega) (fun k e => (HO.out.lt k e).1)); clear hown hgrow hat hlt))
                refine ⟨⟨r + 1, h2, by go_num, ?_, HB5⟩, by simp [intOf]; omega⟩
                rw [HN.out, if_neg hd, if_pos HON.out, List.nil_append]
                exact pair_own (X := X + r) (Y := Z + r) HO5.out (by simp) (by simp)
              | false =>
                have hon : onS l false c = false := by rw [onS, decide_eq_false hq, Bool.false_or]
                have HON := Hid.mk' hon
                clear hon
                go_wp2_with fail
                refine ⟨⟨r + 1, h2, by go_num, ?_, HB⟩, by simp [intOf]; omega⟩
                rw [HN.out, if_neg hd, if_neg (by rw [HON.out]; decide), List.nil_append, List.append_nil]
                exact HO
        · obtain rfl : r = h := by omega
          go_wp2_with fail
          exact ⟨⟨c + 1, h1, by go_num, by rw [HE.out]; exact HO, HB⟩, by simp [intOf]; omega⟩
    · obtain rfl : c = l := by omega
      obtain ⟨ao, co, rfl, _⟩ := row_shape2 HO.out
      go_wp2_with fail
      go_ret
      exact ⟨_, rfl, HO.out, HB.out⟩
end Go.Proofs.YtoghnbcjkgookaaDoor
