/- chain.reach. -/
import Derived.Test.YtlmehmbipbkeiaaDoorGrid
import Derived.Test.YtlmehmbipbkeiaaDoorFromMath
namespace Go.Proofs.YtlmehmbipbkeiaaDoor
open Go.RowKit

theorem Tryd.infoBool : (Tryd.prog.info? 4).map (fun i => (i.zero, i.size, i.bytes)) = some (some (.bool false), 1, 1) := by kernel_rfl
theorem Tryd.infoBools : (Tryd.prog.info? 68).map (fun i => (i.zero, i.size, i.bytes)) = some (some (.slice none 0 0), 1, 24) := by kernel_rfl
/-- Is there a step? -/
def edge (zs : Nat → Nat → Int) (i k : Nat) : Bool := decide (0 < zs i k)
/-- While a round goes on. -/
def during (e : Nat → Nat → Bool) (m i k i' k' : Nat) : Bool := if i' < i ∨ (i' = i ∧ k' < k) then war e (m + 1) i' k' else war e m i' k'
theorem during_own (e : Nat → Nat → Bool) (m i k : Nat) : during e m i k i k = war e m i k := by unfold during; rw [if_neg (by omega)]
theorem during_row (e : Nat → Nat → Bool) (m i k i' : Nat) : during e m i k i' m = war e m i' m := by unfold during; split; exact war_row e m i'; rfl
theorem during_col (e : Nat → Nat → Bool) (m i k k' : Nat) : during e m i k m k' = war e m m k' := by unfold during; split; exact war_col e m k'; rfl
theorem during_next (e : Nat → Nat → Bool) (m i k i' k' : Nat) : during e m i (k + 1) i' k' = if i' = i ∧ k' = k then war e (m + 1) i k else during e m i k i' k' := by
  by_cases h : i' = i ∧ k' = k
  · obtain ⟨rfl, rfl⟩ := h
    rw [if_pos ⟨rfl, rfl⟩]; unfold during; rw [if_pos (by omega)]
  · rw [if_neg h]; unfold during
    by_cases h2 : i' < i ∨ (i' = i ∧ k' < k)
    · rw [if_pos h2, if_pos (by omega)]
    · rw [if_neg h2, if_neg (by omega)]
theorem during_start (e : Nat → Nat → Bool) (m i' k' : Nat) : during e m 0 0 i' k' = war e m i' k' := by unfold during; rw [if_neg (by omega)]
theorem during_line (e : Nat → Nat → Bool) (m n i i' k' : Nat) (hk : k' < n) : during e m i n i' k' = during e m (i + 1) 0 i' k' := by
  unfold during
  by_cases h : i' < i ∨ (i' = i ∧ k' < n)
  · rw [if_pos h, if_pos (by omega)]
  · rw [if_neg h, if_neg (by omega)]
theorem during_end (e : Nat → Nat → Bool) (m n i' k' : Nat) (hi : i' < n) : during e m n 0 i' k' = war e (m + 1) i' k' := by unfold during; rw [if_pos (by omega)]

theorem GridB.congr {w wr : World} {g n C m : Nat} {rb : Nat → Nat} {f f' : Nat → Nat → Value} (h : GridB w wr g n C m rb f) (he : ∀ i k, i < m → k < C → f' i k = f i k) : GridB w wr g n C m rb f' :=
  ⟨h.below, h.hg, h.outer, h.made, h.ofz, h.rge, h.inj, fun i hi => ⟨fun k hk => by rw [he i k hi hk]; exact (h.rows i hi).row k hk, (h.rows i hi).fz⟩⟩

theorem heap_of_row {w : World} {B e s b n cap k : Nat} {xs : List Value} (h : w.ownsRow B e s (.slice (some ⟨b, 0, none⟩) n cap) k xs) : b < w.heap.size := by
  obtain ⟨hl, hr⟩ := h
  rcases hr with ⟨hx, _⟩ | ⟨g', cap', cur, hv, hb, hh, _⟩
  · cases hx
  · obtain ⟨rfl, _⟩ : b = g' ∧ _ := by simpa using hv
    exact heap_lt hh

set_option maxRecDepth 100000 in
set_option maxHeartbeats 8000000 in
theorem reach_any (v : Value) (n : Nat) (zs : Nat → Nat → Int) (w : World) (h : RowsAt w v n zs) (hn : n ≤ 8) :
    Calls Tryd.prog 17 #[v] w fun e w' => ∃ r, e = .returned r ∧ GridAt w' r n n (fun i k => .bool (war (edge zs) n i k)) ∧ Below w.heap.size w w' := by
  obtain ⟨i0, hi, hz0, hz1, hz2⟩ := info_parts Tryd.infoBools
  have HINF : Hid (Tryd.prog.info? 68 = some i0 ∧ i0.zero = some (.slice none 0 0) ∧ i0.size = 1 ∧ i0.bytes = 24) := ⟨hi, hz0, hz1, hz2⟩
  clear hi hz0 hz1 hz2
  obtain ⟨i1, hi, hz0, hz1, hz2⟩ := info_parts Tryd.infoBool
  have HINB : Hid (Tryd.prog.info? 4 = some i1 ∧ i1.zero = some (.bool false) ∧ i1.size = 1 ∧ i1.bytes = 1) := ⟨hi, hz0, hz1, hz2⟩
  clear hi hz0 hz1 hz2
  obtain ⟨b, o, cap, rfl, hr⟩ := h
  have HR : Hid (∀ W, Below w.heap.size w W → ∀ i, i < n → ∃ b1 o1 cap1, W.cell? ⟨b, o + i, none⟩ = some (.slice (some ⟨b1, o1, none⟩) n cap1) ∧ ∀ k, k < n → W.cell? ⟨b1, o1 + k, none⟩ = some (.int .i64 (zs i k))) := fun W hb i hi => by
    obtain ⟨b1, o1, c1, h1, h2⟩ := hr i hi
    exact ⟨b1, o1, c1, by rw [hb.cell (cell_lt h1)]; exact h1, fun k hk => by rw [hb.cell (cell_lt (h2 k hk))]; exact h2 k hk⟩
  clear hr
  obtain ⟨e, he⟩ : ∃ e, e = edge zs := ⟨_, rfl⟩
  have HE := Hid.mk' he
  rw [← he]
  clear he
  go_enter Tryd.func17, Tryd.ntmps17
  go_wp2_with (at_make; go_must (refine wpList_make_full _ rfl _ _ _ rfl w.heap.size 68 i0 _ 1 Tryd.underlying44 HINF.out.1 HINF.out.2.1 HINF.out.2.2.1 .i64 .i64 _ _ n rfl rfl rfl rfl (by rw [HINF.out.2.2.2]; omega) (by unfold maxLen; omega) (Nat.le_refl _) ?_; intro w2 hown2 hgrow2; have HG2 := Hid.mk' (gridB_start (C := n) (rowIs_made hown2 (made_one (.slice none 0 0) rfl n)) (made_below hgrow2) (Nat.le_refl _) (fun _ => 0) (fun i k => .bool (e i k))); clear hown2 hgrow2))
  go_loopw [14] (fun i wr => ∃ (k : Nat) (rb : Nat → Nat), k ≤ n ∧ i = .int .i64 k ∧ Hid (GridB w wr w.heap.size n n k rb (fun i k => .bool (e i k)))) (fun i _ => n - (intOf i).toNat)
  case atStart => exact ⟨0, _, Nat.zero_le _, rfl, HG2⟩
  case round =>
    clear HG2
    obtain ⟨k, rb, hk, rfl, HG⟩ := hrel
    rcases Nat.lt_or_ge k n with h1 | h1
    · have hkn : (k : Int) < (n : Int) := by omega
      have hk0 : (0 : Int) ≤ (k : Int) := by omega
      go_wp2_with (at_make; go_must (refine wpList_make_full _ rfl _ _ _ rfl wr.heap.size 4 i1 _ 1 Tryd.underlying68 HINB.out.1 HINB.out.2.1 HINB.out.2.2.1 .i64 .i64 _ _ n rfl rfl rfl rfl (by rw [HINB.out.2.2.2]; omega) (by unfold maxLen; omega) (Nat.le_refl _) ?_; intro w3 hown3 hgrow3; have hb3 := made_below hgrow3; have hsz3 := heap_of_row hown3; have HG3 := Hid.mk' (HG.out.push h1 hb3 (Nat.le_refl _) hsz3 (rowIs_made hown3 (made_one (.bool false) rfl n))); obtain ⟨x3, hx3⟩ := (HG.out.later hb3).outer k h1; have hf3 := (HG.out.later hb3).ofz k h1; clear hown3 hgrow3 hb3 hsz3))
      obtain ⟨W3, hW3⟩ : ∃ W3, W3 = w3.setCell ⟨w.heap.size, k, none⟩ (.slice (some ⟨wr.heap.size, 0, none⟩) n n) := ⟨_, rfl⟩
      rw [← hW3] at HG3 ⊢
      clear hW3 hx3 hf3
      obtain ⟨rb', hrb'⟩ : ∃ rb' : Nat → Nat, rb' = fun i => if i = k then wr.heap.size else rb i := ⟨_, rfl⟩
      rw [← hrb'] at HG3
      clear hrb'
      have HG4 : Hid (GridB w W3 w.heap.size n n (k + 1) rb' (fun i c => .bool (if i = k then (if c < 0 then e i c else false) else e i c))) := HG3.out.congr (fun i c hi hc => by by_cases h5 : i = k <;> simp [h5])
      clear HG HG3
      go_loopw [25] (fun i wr' => ∃ j : Nat, j ≤ n ∧ i = .int .i64 j ∧ Hid (GridB w wr' w.heap.size n n (k + 1) rb' (fun i c => .bool (if i = k then (if c < j then e i c else false) else e i c)))) (fun i _ => n - (intOf i).toNat)
      case atStart => exact ⟨0, Nat.zero_le _, rfl, HG4⟩
      case round =>
        clear HG4
        obtain ⟨j, hj, rfl, HG⟩ := hrel
        rcases Nat.lt_or_ge j n with h2 | h2
        · have hjn : (j : Int) < (n : Int) := by omega
          have hj0 : (0 : Int) ≤ (j : Int) := by omega
          obtain ⟨b1, o1, cap1, hc1, hr1⟩ := HR.out wr HG.out.below k h1
          have hc2 := hr1 j h2
          have hm := HG.out.made k (by omega)
          have hrw := (HG.out.rows k (by omega)).row j h2
          have hfz := (HG.out.rows k (by omega)).fz j h2
          clear hr1
          have HS := Hid.mk' (HG.out.set (i := k) (k := j) (by omega) h2 (.bool (decide (0 < zs k j))) (f' := fun i c => .bool (if i = k then (if c < j + 1 then e i c else false) else e i c)) (fun i c hi hc => by
            by_cases h5 : i = k
            · subst h5
              by_cases h6 : c = j
              · subst h6; simp [HE.out, edge]
              · simp only [h6, and_false, if_false, if_true]
                by_cases h7 : c < j
                · rw [if_pos h7, if_pos (by omega)]
                · rw [if_neg h7, if_neg (by omega)]
            · simp [h5]))
          generalize zs k j = z at *
          generalize rb' k = r at *
          go_wp2_with fail
          go_region
          go_wp2_with fail
          exact ⟨⟨j + 1, h2, by go_num, HS.out.drewN⟩, by simp [intOf]; omega⟩
        · obtain rfl : j = n := by omega
          have HG5 : Hid (GridB w wr w.heap.size j j (k + 1) rb' (fun i c => .bool (e i c))) := HG.out.congr (fun i c hi hc => by by_cases h5 : i = k <;> simp [h5, hc])
          clear HG
          go_wp2_with fail
          exact ⟨⟨k + 1, rb', h1, by go_num, HG5⟩, by simp [intOf]; omega⟩
    · obtain rfl : n = k := by omega
      have HW0 : Hid (GridB w wr w.heap.size n n n rb (fun i c => .bool (war e 0 i c))) := HG
      clear HG
      go_wp2_with fail
      obtain ⟨Wr, hWr⟩ : ∃ Wr, Wr = wr := ⟨_, rfl⟩
      rw [← hWr] at HW0 ⊢
      clear hWr hk h1
      go_loopw [46] (fun i wr => ∃ m : Nat, m ≤ n ∧ i = .int .i64 m ∧ Hid (GridB w wr w.heap.size n n n rb (fun i c => .bool (war e m i c)))) (fun i _ => n - (intOf i).toNat)
      case atStart => exact ⟨0, Nat.zero_le _, rfl, HW0⟩
      case round =>
        clear HW0
        obtain ⟨m, hm, rfl, HG⟩ := hrel
        rcases Nat.lt_or_ge m n with h1 | h1
        · have hmn : (m : Int) < (n : Int) := by omega
          have hm0 : (0 : Int) ≤ (m : Int) := by omega
          have HW1 : Hid (GridB w wr w.heap.size n n n rb (fun i c => .bool (during e m 0 0 i c))) := HG.out.congr (fun i c _ _ => by rw [during_start])
          clear HG
          go_wp2_with fail
          obtain ⟨Wr, hWr⟩ : ∃ Wr, Wr = wr := ⟨_, rfl⟩
          rw [← hWr] at HW1 ⊢
          clear hWr
          go_loopw [51] (fun i wr => ∃ p : Nat, p ≤ n ∧ i = .int .i64 p ∧ Hid (GridB w wr w.heap.size n n n rb (fun i c => .bool (during e m p 0 i c)))) (fun i _ => n - (intOf i).toNat)
          case atStart => exact ⟨0, Nat.zero_le _, rfl, HW1⟩
          case round =>
            clear HW1
            obtain ⟨p, hp, rfl, HG⟩ := hrel
            rcases Nat.lt_or_ge p n with h2 | h2
            · have hpn : (p : Int) < (n : Int) := by omega
              have hp0 : (0 : Int) ≤ (p : Int) := by omega
              go_wp2_with fail
              obtain ⟨Wr, hWr⟩ : ∃ Wr, Wr = wr := ⟨_, rfl⟩
              rw [← hWr] at HG ⊢
              clear hWr
              go_loopw [56] (fun i wr => ∃ q : Nat, q ≤ n ∧ i = .int .i64 q ∧ Hid (GridB w wr w.heap.size n n n rb (fun i c => .bool (during e m p q i c)))) (fun i _ => n - (intOf i).toNat)
              case atStart => exact ⟨0, Nat.zero_le _, rfl, HG⟩
              case round =>
                clear HG
                obtain ⟨q, hq, rfl, HG⟩ := hrel
                rcases Nat.lt_or_ge q n with h3 | h3
                · have hqn : (q : Int) < (n : Int) := by omega
                  have hq0 : (0 : Int) ≤ (q : Int) := by omega
                  have ma := HG.out.made p h2
                  have mb := HG.out.made m h1
                  have ca := (HG.out.rows p h2).row q h3
                  have cb := (HG.out.rows p h2).row m h1
                  have cc := (HG.out.rows m h1).row q h3
                  have fa := (HG.out.rows p h2).fz q h3
                  rw [during_own] at ca
                  rw [during_row] at cb
                  rw [during_col] at cc
                  have HS : Hid (GridB w ((wr.setCell ⟨rb p, q, none⟩ (.bool (war e m p q || (war e m p m && war e m m q)))).drew) w.heap.size n n n rb (fun i c => .bool (during e m p (q + 1) i c))) := (HG.out.set (i := p) (k := q) h2 h3 (.bool (war e m p q || (war e m p m && war e m m q))) (fun i c hi hc => by rw [during_next]; split <;> rfl)).drewN
                  clear HG
                  generalize rb p = ra at *
                  generalize rb m = rc at *
                  cases hA : war e m p q with
                  | true =>
                    rw [hA] at ca HS
                    simp only [Bool.true_or] at HS
                    go_wp2_with fail
                    go_region
                    go_wp2_with fail
                    exact ⟨⟨q + 1, h3, by go_num, HS⟩, by simp [intOf]; omega⟩
                  | false =>
                    cases hB : war e m p m with
                    | false =>
                      rw [hA] at ca HS
                      rw [hB] at cb HS
                      simp only [Bool.false_or, Bool.false_and] at HS
                      go_wp2_with fail
                      go_region
                      go_wp2_with fail
                      exact ⟨⟨q + 1, h3, by go_num, HS⟩, by simp [intOf]; omega⟩
                    | true =>
                      rw [hA] at ca HS
                      rw [hB] at cb HS
                      simp only [Bool.false_or, Bool.true_and] at HS
                      generalize war e m m q = x at *
                      go_wp2_with fail
                      go_region
                      go_wp2_with fail
                      exact ⟨⟨q + 1, h3, by go_num, HS⟩, by simp [intOf]; omega⟩
                · obtain rfl : n = q := by omega
                  have HG5 : Hid (GridB w wr w.heap.size n n n rb (fun i c => .bool (during e m (p + 1) 0 i c))) := HG.out.congr (fun i c hi hc => by rw [during_line e m n p i c hc])
                  clear HG
                  go_wp2_with fail
                  exact ⟨⟨p + 1, h2, by go_num, HG5⟩, by simp [intOf]; omega⟩
            · obtain rfl : n = p := by omega
              have HG5 : Hid (GridB w wr w.heap.size n n n rb (fun i c => .bool (war e (m + 1) i c))) := HG.out.congr (fun i c hi hc => by rw [during_end e m n i c hi])
              clear HG
              go_wp2_with fail
              exact ⟨⟨m + 1, h1, by go_num, HG5⟩, by simp [intOf]; omega⟩
        · obtain rfl : n = m := by omega
          go_wp2_with fail
          go_ret
          exact ⟨_, rfl, HG.out.at, HG.out.below⟩
end Go.Proofs.YtlmehmbipbkeiaaDoor
