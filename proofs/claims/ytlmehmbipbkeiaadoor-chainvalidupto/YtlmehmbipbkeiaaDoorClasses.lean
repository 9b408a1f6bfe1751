/- chain.stays, leasts, closed, class. -/
import Derived.Test.YtlmehmbipbkeiaaDoorReach
import Derived.Test.YtlmehmbipbkeiaaDoorWeights
namespace Go.Proofs.YtlmehmbipbkeiaaDoor
open Go.RowKit

/-- A table of truths. -/
abbrev TruthAt (w : World) (v : Value) (n : Nat) (to : Nat → Nat → Bool) : Prop := GridAt w v n n (fun i k => .bool (to i k))
/-- States as a list in memory. -/
def natL (l : List Nat) : List Int := l.map fun x : Nat => (x : Int)
theorem natL_length (l : List Nat) : (natL l).length = l.length := by simp [natL]
theorem natL_push (l : List Nat) (k : Nat) : cellL (natL (l ++ [k])) = cellL (natL l) ++ [.int .i64 (k : Int)] := by simp [natL, cellL]
def StatesAt (w : World) (v : Value) (l : List Nat) : Prop := NumsAt w v l.length (fun i => ((l.getD i 0 : Nat) : Int))
theorem StatesAt.later {w w' : World} {v : Value} {l : List Nat} (h : StatesAt w v l) (hb : Below w.heap.size w w') : StatesAt w' v l := NumsAt.later h hb
theorem statesAt_row {w : World} {base : Nat} {v : Value} {l : List Nat} (h : w.ownsRow base 3 1 v l.length (cellL (natL l))) : StatesAt w v l := by
  have h1 : w.ownsRow base 3 1 v (natL l).length (cellL (natL l)) := by rw [natL_length]; exact h
  have h2 := numsAt_row h1
  rw [natL_length] at h2
  refine h2.congr fun i hi => ?_
  simp [atF, natL, hi]

set_option maxRecDepth 100000 in
set_option maxHeartbeats 1000000 in
theorem stays_any (v : Value) (n i : Nat) (to : Nat → Nat → Bool) (w : World) (h : TruthAt w v n to) (hn : n ≤ 8) (hi : i < n) :
    Calls Tryd.prog 31 #[v, .int .i64 i] w fun e w' => e = .returned (.bool (staysB to i n)) ∧ w' = w := by
  obtain ⟨b, o, cap, rfl, hr⟩ := h
  obtain ⟨bi, oi, ci, hci, hri⟩ := hr i hi
  have HR := Hid.mk' hr
  have HRI := Hid.mk' hri
  clear hr hri
  have hi0 : (0 : Int) ≤ (i : Int) := by omega
  have hin : (i : Int) < (n : Int) := by omega
  go_enter Tryd.func31, Tryd.ntmps31
  go_wp2_with fail
  go_loop [8] (fun t => ∃ k : Nat, k ≤ n ∧ t = .int .i64 k ∧ Hid (staysB to i k = true)) (fun t => n - (intOf t).toNat)
  case atStart => exact ⟨0, Nat.zero_le _, rfl, rfl⟩
  case round =>
    obtain ⟨k, hk, rfl, HS⟩ := hrel
    rcases Nat.lt_or_ge k n with h1 | h1
    · have hkn : (k : Int) < (n : Int) := by omega
      have hk0 : (0 : Int) ≤ (k : Int) := by omega
      obtain ⟨bk, ok, ck, hck, hrk⟩ := HR.out k h1
      have c1 := HRI.out k h1
      have c2 := hrk i hi
      clear hrk
      cases hA : to i k with
      | false =>
        rw [hA] at c1
        have HS' : Hid (staysB to i (k + 1) = true) := by show _ = _; simp [staysB, HS.out, hA]
        go_wp2_with fail
        exact ⟨⟨k + 1, h1, by go_num, HS'⟩, by simp [intOf]; omega⟩
      | true =>
        rw [hA] at c1
        cases hB : to k i with
        | true =>
          rw [hB] at c2
          have HS' : Hid (staysB to i (k + 1) = true) := by show _ = _; simp [staysB, HS.out, hB]
          go_wp2_with fail
          exact ⟨⟨k + 1, h1, by go_num, HS'⟩, by simp [intOf]; omega⟩
        | false =>
          rw [hB] at c2
          have HS' : Hid (staysB to i n = false) := by
            show _ = _
            cases hX : staysB to i n with
            | false => rfl
            | true => have := (stays_iff to i n).1 hX k h1 hA; rw [hB] at this; cases this
          go_wp2_with fail
          go_ret
          exact ⟨ret_bool (by rw [HS'.out]), rfl⟩
    · obtain rfl : n = k := by omega
      go_wp2_with fail
      go_ret
      exact ⟨ret_bool (by rw [HS.out]), rfl⟩

set_option maxRecDepth 100000 in
set_option maxHeartbeats 2000000 in
theorem leasts_any (v : Value) (n : Nat) (to : Nat → Nat → Bool) (w : World) (h : TruthAt w v n to) (hn : n ≤ 8) :
    Calls Tryd.prog 30 #[v] w fun e w' => ∃ g, e = .returned (.slice (some ⟨g, 0, none⟩) n n) ∧ RowAt w' g 0 n (fun i => (least to i : Int)) ∧ Below w.heap.size w w' := by
  obtain ⟨i0, hi, hz0, hz1, hz2⟩ := info_parts Tryd.infoInt
  have HINF : Hid (Tryd.prog.info? 3 = some i0 ∧ i0.zero = some (.int .i64 0) ∧ i0.size = 1 ∧ i0.bytes = 8) := ⟨hi, hz0, hz1, hz2⟩
  clear hi hz0 hz1 hz2
  have HT := Hid.mk' h
  obtain ⟨b, o, cap, rfl, hr⟩ := h
  clear hr
  go_enter Tryd.func30, Tryd.ntmps30
  go_wp2_with (at_make; go_must (refine wpList_make_full _ rfl _ _ _ rfl w.heap.size 3 i0 _ 1 Tryd.underlying34 HINF.out.1 HINF.out.2.1 HINF.out.2.2.1 .i64 .i64 _ _ n rfl rfl rfl rfl (by rw [HINF.out.2.2.2]; omega) (by unfold maxLen; omega) (Nat.le_refl _) ?_; intro w2 hown2 hgrow2; have HF2 := Hid.mk' (fills_made hown2 (made_zero n) hgrow2); clear hown2 hgrow2))
  go_loopw [11] (fun i wr => ∃ k : Nat, k ≤ n ∧ i = .int .i64 k ∧ Hid (Fills w wr w.heap.size n (fun i => if i < k then (least to i : Int) else 0))) (fun i _ => n - (intOf i).toNat)
  case atStart => exact ⟨0, Nat.zero_le _, rfl, by simpa using HF2⟩
  case round =>
    clear HF2
    obtain ⟨i, hi, rfl, HF⟩ := hrel
    rcases Nat.lt_or_ge i n with h1 | h1
    · have hin : (i : Int) < (n : Int) := by omega
      have hi0 : (0 : Int) ≤ (i : Int) := by omega
      have hcF := HF.out.row i h1
      have hfz := HF.out.fz i h1
      rw [Nat.zero_add] at hcF hfz
      rw [if_neg (by omega)] at hcF
      have HS := Hid.mk' (HF.out.set h1 (i : Int) (f' := fun c => if c < i then (least to c : Int) else if c = i then (i : Int) else 0) (fun c hc => by
        by_cases h5 : c = i
        · subst h5; simp
        · simp [h5]))
      clear HF
      go_wp2_with fail
      obtain ⟨Wr, hWr⟩ : ∃ Wr, Wr = wr.setCell ⟨w.heap.size, i, none⟩ (.int .i64 (i : Int)) := ⟨_, rfl⟩
      rw [← hWr] at HS ⊢
      clear hWr hcF hfz
      have HL1 : Hid (∀ (W : World) (x : Nat), Fills w W w.heap.size n (fun c => if c < i then (least to c : Int) else if c = i then (x : Int) else 0) → least to i = x → Fills w W w.heap.size n (fun c => if c < i + 1 then (least to c : Int) else 0)) := fun W x hf hx => by
        refine ⟨fun c hc => ?_, hf.fz, hf.below, hf.hg⟩
        have := hf.row c hc
        rw [this]
        by_cases h5 : c = i
        · subst h5; simp [hx]
        · simp only [h5, if_false]
          by_cases h6 : c < i
          · rw [if_pos h6, if_pos (by omega)]
          · rw [if_neg h6, if_neg (by omega)]
      go_loop [19] (fun t => ∃ k : Nat, k ≤ i ∧ t = .int .i64 k ∧ Hid (∀ j, j < k → ¬ (to i j = true ∧ to j i = true))) (fun t => i - (intOf t).toNat)
      case atStart => exact ⟨0, Nat.zero_le _, rfl, fun j hj => by omega⟩
      case round =>
        obtain ⟨k, hk, rfl, HN⟩ := hrel
        obtain ⟨bi, oi, ci, hci, hri⟩ := (HT.out.later HS.out.below).rowAt i h1
        rcases Nat.lt_or_ge k i with h2 | h2
        · obtain ⟨bk, ok, ck, hck, hrk⟩ := (HT.out.later HS.out.below).rowAt k (by omega)
          have hki : (k : Int) < (i : Int) := by omega
          have hk0 : (0 : Int) ≤ (k : Int) := by omega
          have c1 := hri k (by omega)
          have c2 := hrk i h1
          clear hri hrk
          cases hA : to i k with
          | false =>
            rw [hA] at c1
            have HN' : Hid (∀ j, j < k + 1 → ¬ (to i j = true ∧ to j i = true)) := fun j hj => by
              rcases Nat.lt_or_ge j k with h' | h'
              · exact HN.out j h'
              · obtain rfl : j = k := by omega
                rw [hA]; simp
            go_wp2_with fail
            exact ⟨⟨k + 1, h2, by go_num, HN'⟩, by simp [intOf]; omega⟩
          | true =>
            rw [hA] at c1
            cases hB : to k i with
            | false =>
              rw [hB] at c2
              have HN' : Hid (∀ j, j < k + 1 → ¬ (to i j = true ∧ to j i = true)) := fun j hj => by
                rcases Nat.lt_or_ge j k with h' | h'
                · exact HN.out j h'
                · obtain rfl : j = k := by omega
                  rw [hB]; simp
              go_wp2_with fail
              exact ⟨⟨k + 1, h2, by go_num, HN'⟩, by simp [intOf]; omega⟩
            | true =>
              rw [hB] at c2
              have hcF := HS.out.row i h1
              have hfz := HS.out.fz i h1
              rw [Nat.zero_add] at hcF hfz
              simp at hcF
              have HS2 := Hid.mk' (HS.out.set h1 (k : Int) (f' := fun c => if c < i then (least to c : Int) else if c = i then (k : Int) else 0) (fun c hc => by
                by_cases h5 : c = i
                · subst h5; simp
                · simp [h5]))
              have HL := Hid.mk' (HL1.out _ k HS2.out (least_first h2 hA hB HN.out))
              go_wp2_with fail
              exact ⟨⟨i + 1, h1, by go_num, HL⟩, by simp [intOf]; omega⟩
        · obtain rfl : i = k := by omega
          have HL := Hid.mk' (HL1.out _ i HS.out (least_none HN.out))
          clear hri
          go_wp2_with fail
          exact ⟨⟨i + 1, h1, by go_num, HL⟩, by simp [intOf]; omega⟩
    · obtain rfl : n = i := by omega
      go_wp2_with fail
      go_ret
      exact ⟨_, rfl, fun c hc => by have := HF.out.row c hc; rw [if_pos hc] at this; exact this, HF.out.below⟩
end Go.Proofs.YtlmehmbipbkeiaaDoor
