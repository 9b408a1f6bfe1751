/- The program's sums, differences and products of numbers without a bound. -/
import Derived.Test.YtlnhpkmcinohdaaDoorNatMath
import Derived.Test.YtlnhpkmcinohdaaDoorShift
import Derived.Shelf.Spec.BitsCarry
import Derived.Laws.Bits64b
namespace Go.Proofs.YtlnhpkmcinohdaaDoor
open Go.RowKit

theorem Add64_carry (x y c : Nat) (w : World) (hc : c ≤ 1) :
    (callFunc 57 #[.int .u64 x, .int .u64 y, .int .u64 c]).run Tryd.prog w =
      .ok (.value (.tuple #[.int .u64 (((x + y + c) % 18446744073709551616 : Nat) : Int), .int .u64 (((x + y + c) / 18446744073709551616 : Nat) : Int)])) w := by
  rw [run_callFunc_extern Tryd.func57 (by kernel_rfl) (by kernel_rfl) (by kernel_rfl) (e := add64Entry) (by kernel_rfl), run_add64 x y c (by omega) (by omega) (by omega) (by omega)]
  simp only [Result.andThen]
  congr 5 <;> omega
theorem Sub64_borrow (x y c : Nat) (w : World) (hc : c ≤ 1) :
    (callFunc 59 #[.int .u64 x, .int .u64 y, .int .u64 c]).run Tryd.prog w =
      .ok (.value (.tuple #[.int .u64 (((x + 18446744073709551616 - y - c) % 18446744073709551616 : Nat) : Int), .int .u64 ((if x < y + c then 1 else 0 : Nat) : Int)])) w := by
  rw [run_callFunc_extern Tryd.func59 (by kernel_rfl) (by kernel_rfl) (by kernel_rfl) (e := sub64Entry) (by kernel_rfl), run_sub64 x y c hc]
  rfl

theorem word_any (u : Value) (x : List Nat) (k : Nat) (w : World) (h : WordsAt w u x) (_ : x.length ≤ 1000001) (_ : k ≤ 1000001) :
    Calls Tryd.prog 58 #[u, .int .i64 k] w fun e w' => e = .returned (.int .u64 ((x.getD k 0 : Nat) : Int)) ∧ w' = w := by
  obtain ⟨ad, cap, rfl⟩ := h.form
  rcases Nat.lt_or_ge k x.length with hlt | hge
  · obtain ⟨b, o, rfl, hc⟩ := h.cellAt hlt
    have hi : (k : Int) < (x.length : Int) := by omega
    have h0 : (0 : Int) ≤ (k : Int) := by omega
    generalize x.getD k 0 = d at *
    go_enter Tryd.func58, Tryd.ntmps58
    go_wp2_with fail
    go_ret
    exact ⟨rfl, rfl⟩
  · have hi : ¬ (k : Int) < (x.length : Int) := by omega
    have hz : x.getD k 0 = 0 := by rw [List.getD_eq_getElem?_getD, List.getElem?_eq_none hge]; rfl
    rw [hz]
    go_enter Tryd.func58, Tryd.ntmps58
    go_wp2_with fail
    go_ret
    exact ⟨rfl, rfl⟩

theorem getD_lt {l : List Nat} (h : Wrd l) (k : Nat) : l.getD k 0 < 18446744073709551616 := by
  rcases Nat.lt_or_ge k l.length with h' | h'
  · exact h k h'
  · rw [List.getD_eq_getElem?_getD, List.getElem?_eq_none h']; decide

/-- A number whose words lie in a new block. -/
def NatNew (B : Nat) (w : World) (v : Value) (n : Nat) : Prop := NatAt w v n ∧ ∀ b o l c, v = .slice (some ⟨b, o, none⟩) l c → 0 < l → B ≤ b
theorem new_row {w : World} {base : Nat} {t : TypeId} {v : Value} {k : Nat} {xs : List Value} (h : w.ownsRow base t 1 v k xs) : ∀ b o l c, v = .slice (some ⟨b, o, none⟩) l c → 0 < l → base ≤ b := fun b o l c hv hl => by
  rcases h.2 with ⟨hx, _⟩ | ⟨g, cap, cur, hx, hg, _⟩
  · rw [hv] at hx; simp at hx
  · rw [hv] at hx
    simp only [Value.slice.injEq, Option.some.injEq, Addr.mk.injEq, and_true] at hx
    omega
/-- Words that are made and filled. -/
structure WFill (w wr : World) (g : Nat) (l : List Nat) : Prop where
  row : ∀ i, i < l.length → wr.cell? ⟨g, i, none⟩ = some (.int .u64 ((l.getD i 0 : Nat) : Int))
  fz : ∀ i, i < l.length → wr.frozen? ⟨g, i, none⟩ = false
  below : Below w.heap.size w wr
  hg : w.heap.size ≤ g
theorem WFill.set {w wr : World} {g : Nat} {l : List Nat} (h : WFill w wr g l) {j : Nat} (hj : j < l.length) (d : Nat) : WFill w (wr.setCell ⟨g, j, none⟩ (.int .u64 (d : Int))) g (l.set j d) := by
  refine ⟨fun i hi => ?_, fun i hi => ?_, h.below.setCell h.hg _, h.hg⟩
  · rw [List.length_set] at hi
    rw [getD_set l j d i hj]
    by_cases hij : i = j
    · subst hij
      rw [if_pos rfl]
      exact World.cell?_setCell_same _ _ _ (h.row i hi)
    · rw [if_neg hij, World.cell?_setCell_other _ _ _ _ (fun e => hij (by have := congrArg Addr.off e; simp at this; omega))]
      exact h.row i hi
  · rw [List.length_set] at hi
    rw [World.frozen?_setCell]
    exact h.fz i hi
theorem made_word (n i : Nat) (hi : i < n) : (madeCells (Value.int IntKind.u64 0).cells (n * 1)).toList[i]? = some (.int .u64 0) := by
  simp [madeCells, hi, Nat.mod_one, Value.cells]
theorem wfill_made {w w2 : World} {g n : Nat} {t : TypeId} {xs : List Value} (h : w2.ownsRow w.heap.size t 1 (.slice (some ⟨g, 0, none⟩) n n) n xs) (hx : ∀ i, i < n → xs[i]? = some (.int .u64 0)) (hg : w.grownBy w2 none) : WFill w w2 g (List.replicate n 0) := by
  obtain ⟨hl, hr⟩ := h
  rcases hr with ⟨hx, _⟩ | ⟨g', cap', cur, hv, hb, hh, _, _, hs, ht⟩
  · cases hx
  · obtain ⟨rfl, rfl⟩ : g = g' ∧ n = cap' := by simpa using hv
    refine ⟨fun i hi => ?_, fun i hi => ?_, (Below.refl _ _).grown hg (Nat.le_refl _) (fun k hk => by cases hk), hb⟩
    · rw [List.length_replicate] at hi
      have e : (List.replicate n 0).getD i 0 = 0 := by rw [List.getD_eq_getElem?_getD]; simp [hi]
      rw [e]
      have := hx i hi
      rw [← ht, List.getElem?_take_of_lt (by omega)] at this
      show _ = some (Value.int IntKind.u64 0)
      rw [← this]
      simp [World.cell?, hh]
    · rw [List.length_replicate] at hi
      simp [World.frozen?, hh]
theorem WFill.words {w wr : World} {g n cap : Nat} {l : List Nat} (h : WFill w wr g l) (hn : n ≤ l.length) (hc : n ≤ cap) : WordsAt wr (.slice (some ⟨g, 0, none⟩) n cap) (l.take n) := by
  rcases Nat.eq_zero_or_pos n with rfl | hp
  · exact Or.inl ⟨_, _, rfl, by simp⟩
  · have hl : (l.take n).length = n := by rw [List.length_take]; omega
    refine Or.inr ⟨g, 0, cap, by rw [hl], by omega, by omega, fun i hi => ?_⟩
    rw [Nat.zero_add, wgetD_take (by omega)]
    exact h.row i (by omega)

set_option maxRecDepth 10000 in
set_option maxHeartbeats 2000000 in
theorem Plus_ge (u v : Value) (x y : List Nat) (w : World) (hx : Wrd x) (hy : Wrd y) (hne : NoEnd x) (h1 : WordsAt w u x) (h2 : WordsAt w v y) (hyx : y.length ≤ x.length) (hl : x.length ≤ 1000000) :
    Calls Tryd.prog 42 #[u, v] w fun e w' => ∃ r, e = .returned r ∧ NatNew w.heap.size w' r (wv x + wv y) ∧ Below w.heap.size w w' := by
  obtain ⟨i0, hi, hz0, hz1, hz2⟩ := info_parts Tryd.infoWord
  have HINF : Hid (Tryd.prog.info? 82 = some i0 ∧ i0.zero = some (.int .u64 0) ∧ i0.size = 1 ∧ i0.bytes = 8) := ⟨hi, hz0, hz1, hz2⟩
  clear hi hz0 hz1 hz2
  obtain ⟨a1, c1, rfl⟩ := h1.form
  obtain ⟨a2, c2, rfl⟩ := h2.form
  have H1 := Hid.mk' h1
  have H2 := Hid.mk' h2
  have HX := Hid.mk' hx
  have HY := Hid.mk' hy
  have HNE := Hid.mk' hne
  clear h1 h2 hx hy hne
  have hcI : ¬ (x.length : Int) < (y.length : Int) := by omega
  go_enter Tryd.func42, Tryd.ntmps42
  go_wp2_with (at_make; go_must (refine wpList_make_own _ rfl _ _ _ rfl w.heap.size 82 i0 _ 1 Tryd.underlying68 HINF.out.1 HINF.out.2.1 HINF.out.2.2.1 _ _ _ (x.length + 1) rfl rfl (by omega) (by rw [HINF.out.2.2.2]; omega) (by unfold maxLen; omega) (Nat.le_refl _) ?_; intro w1 hown hgrow; have HO := Hid.mk' hown; have HG := Hid.mk' hgrow; clear hown hgrow))
  go_loopw [5, 7, 23] (fun s t i wr => ∃ (k c : Nat) (l : List Nat), i = .int .i64 k ∧ t = .int .u64 c ∧ k ≤ x.length ∧ c ≤ 1 ∧ Hid (l.length = k) ∧ Hid (wv l + 18446744073709551616 ^ k * c = wv (x.take k) + wv (y.take k) ∧ Wrd l) ∧ Hid (wr.ownsRow w.heap.size 82 1 s l.length (wordCells l)) ∧ Hid (Below w.heap.size w wr)) (fun _ _ i _ => x.length - (intOf i).toNat)
  case atStart => exact ⟨0, 0, [], rfl, rfl, by omega, by omega, rfl, ⟨by simp [wv], (fun i hi => by simp at hi)⟩, HO.out, (Below.refl _ _).grown HG.out (Nat.le_refl _) (fun k h => by cases h)⟩
  case round =>
    clear HO HG
    obtain ⟨k, c, l, rfl, rfl, hk, hc, HLN, HV, HR, HB⟩ := hrel
    have hz := HB.out.size
    have hln1 : l.length ≤ k := by have := HLN.out; omega
    have hk0 : (0 : Int) ≤ (k : Int) := by omega
    by_cases hlt : k < x.length
    · obtain ⟨b1, o1, e1, hc1⟩ := (H1.out.later HB.out).cellAt hlt
      subst e1
      have hkI : (k : Int) < (x.length : Int) := by omega
      have hwd := word_any _ y k wr (H2.out.later HB.out) (by omega) (by omega)
      have hdx := getD_lt HX.out k
      have hdy := getD_lt HY.out k
      obtain ⟨d, hd⟩ : ∃ d : Nat, d = x.getD k 0 := ⟨_, rfl⟩
      obtain ⟨f, hf⟩ : ∃ f : Nat, f = y.getD k 0 := ⟨_, rfl⟩
      have HD := Hid.mk' hd
      have HF := Hid.mk' hf
      rw [← hd] at hc1 hdx
      rw [← hf] at hwd hdy
      clear hd hf
      go_wp2_with fail
      refine hwd.mono ?_
      clear hwd
      rintro e w2 ⟨rfl, hw2⟩
      go_wp2_with fail
      rw [Add64_carry d f c wr hc]
      go_wp2_with ((at_builtin; go_must (refine wpList_append_lies _ rfl _ _ _ rfl w.heap.size 82 i0 _ 1 8 Tryd.underlying68 HINF.out.1 HINF.out.2.1 HINF.out.2.2.1 HINF.out.2.2.2 rfl (by omega) u5 _ _ rfl (HR.out.alloc _) ⟨wr.heap.size, 0, none⟩ 1 1 [.int .u64 (((d + f + c) % 18446744073709551616 : Nat) : Int)] rfl rfl (one_new _ _ _) (by simp [Value.oneCell']) (by omega) (by unfold maxLen; omega) (by omega) (by simp; omega) _ rfl ?_; intro g' cap' w3 hown3 hgrow3 hat3 hlt3; have HO3 := Hid.mk' hown3; have HG3 := Hid.mk' hgrow3; clear hown3 hgrow3 hat3)))
      have hst := plus_step (x := x) (y := y) (t := d + f + c) HLN.out (by rw [← HD.out, ← HF.out]) HV.out.1
      have hln := HLN.out
      refine ⟨⟨k + 1, (d + f + c) / 18446744073709551616, l ++ [(d + f + c) % 18446744073709551616], by go_num, rfl, by omega, by omega, by show _ = _; simp [hln], ⟨hst, HV.out.2.push (Nat.mod_lt _ (by decide))⟩, ?_, below_push HB.out HR.out HG3.out⟩, by simp [intOf]; omega⟩
      have := HO3.out
      show World.ownsRow _ _ _ _ _ _ _
      rw [wordCells_push]
      simpa using this
    · obtain rfl : k = x.length := by omega
      have hval : Hid (wv l + 18446744073709551616 ^ x.length * c = wv x + wv y) := by
        have := HV.out.1
        rw [List.take_length, List.take_of_length_le hyx] at this
        exact this
      have hln := HLN.out
      by_cases hc0 : c = 0
      · have hcz : ((c : Int) != 0) = false := by simp [hc0]
        have hv0 : Hid (wv l = wv x + wv y) := by
          have := hval.out
          rw [hc0, Nat.mul_zero, Nat.add_zero] at this
          exact this
        clear hc0 hln
        go_wp2_with fail
        go_ret
        have hln := HLN.out
        refine ⟨_, rfl, ⟨⟨l, HV.out.2, ?_, by rw [hv0.out], wordsAt_of_row HR.out⟩, new_row HR.out⟩, HB.out⟩
        rcases Nat.eq_zero_or_pos l.length with h0 | hp
        · exact fun i hi => by omega
        · refine noEnd_of_le HV.out.2 hp ?_
          rw [hv0.out, hln]
          have h1 := HNE.out.take_le (by omega)
          omega
      · have hcz : ((c : Int) != 0) = true := by simp [hc0]
        have HC0 := Hid.mk' hc0
        clear hc0 hln
        go_wp2_with (at_builtin; go_must (refine wpList_append_lies _ rfl _ _ _ rfl w.heap.size 82 i0 _ 1 8 Tryd.underlying68 HINF.out.1 HINF.out.2.1 HINF.out.2.2.1 HINF.out.2.2.2 rfl (by omega) u5 _ _ rfl (HR.out.alloc _) ⟨wr.heap.size, 0, none⟩ 1 1 [.int .u64 (c : Int)] rfl rfl (one_new _ _ _) (by simp [Value.oneCell']) (by omega) (by unfold maxLen; omega) (by omega) (by simp; omega) _ rfl ?_; intro g' cap' w3 hown3 hgrow3 hat3 hlt3; have HO3 := Hid.mk' hown3; have HG3 := Hid.mk' hgrow3; clear hown3 hgrow3 hat3))
        go_ret
        have hln := HLN.out
        have ho : w3.ownsRow w.heap.size 82 1 (.slice (some ⟨g', 0, none⟩) (l.length + 1) cap') (l ++ [c]).length (wordCells (l ++ [c])) := by
          rw [wordCells_push]; simpa using HO3.out
        refine ⟨_, rfl, ⟨⟨l ++ [c], HV.out.2.push (by omega), fun i hi => ?_, ?_, wordsAt_of_row ho⟩, new_row ho⟩, below_push HB.out HR.out HG3.out⟩
        · have : i = l.length := by simp at hi; omega
          subst this
          rw [wgetD_append_last]; exact HC0.out
        · rw [wv_append, wv_single, hln, hval.out]

set_option maxRecDepth 10000 in
set_option maxHeartbeats 2000000 in
theorem Plus_lt (u v : Value) (x y : List Nat) (w : World) (hx : Wrd x) (hy : Wrd y) (hne : NoEnd x) (h1 : WordsAt w u x) (h2 : WordsAt w v y) (hyx : y.length < x.length) (hl : x.length ≤ 1000000) :
    Calls Tryd.prog 42 #[v, u] w fun e w' => ∃ r, e = .returned r ∧ NatNew w.heap.size w' r (wv y + wv x) ∧ Below w.heap.size w w' := by
  obtain ⟨i0, hi, hz0, hz1, hz2⟩ := info_parts Tryd.infoWord
  have HINF : Hid (Tryd.prog.info? 82 = some i0 ∧ i0.zero = some (.int .u64 0) ∧ i0.size = 1 ∧ i0.bytes = 8) := ⟨hi, hz0, hz1, hz2⟩
  clear hi hz0 hz1 hz2
  obtain ⟨a1, c1, rfl⟩ := h1.form
  obtain ⟨a2, c2, rfl⟩ := h2.form
  have H1 := Hid.mk' h1
  have H2 := Hid.mk' h2
  have HX := Hid.mk' hx
  have HY := Hid.mk' hy
  have HNE := Hid.mk' hne
  clear h1 h2 hx hy hne
  have hcI : (y.length : Int) < (x.length : Int) := by omega
  replace hyx : y.length ≤ x.length := by omega
  go_enter Tryd.func42, Tryd.ntmps42
  go_wp2_with (at_make; go_must (refine wpList_make_own _ rfl _ _ _ rfl w.heap.size 82 i0 _ 1 Tryd.underlying68 HINF.out.1 HINF.out.2.1 HINF.out.2.2.1 _ _ _ (x.length + 1) rfl rfl (by omega) (by rw [HINF.out.2.2.2]; omega) (by unfold maxLen; omega) (Nat.le_refl _) ?_; intro w1 hown hgrow; have HO := Hid.mk' hown; have HG := Hid.mk' hgrow; clear hown hgrow))
  go_loopw [5, 7, 23] (fun s t i wr => ∃ (k c : Nat) (l : List Nat), i = .int .i64 k ∧ t = .int .u64 c ∧ k ≤ x.length ∧ c ≤ 1 ∧ Hid (l.length = k) ∧ Hid (wv l + 18446744073709551616 ^ k * c = wv (x.take k) + wv (y.take k) ∧ Wrd l) ∧ Hid (wr.ownsRow w.heap.size 82 1 s l.length (wordCells l)) ∧ Hid (Below w.heap.size w wr)) (fun _ _ i _ => x.length - (intOf i).toNat)
  case atStart => exact ⟨0, 0, [], rfl, rfl, by omega, by omega, rfl, ⟨by simp [wv], (fun i hi => by simp at hi)⟩, HO.out, (Below.refl _ _).grown HG.out (Nat.le_refl _) (fun k h => by cases h)⟩
  case round =>
    clear HO HG
    obtain ⟨k, c, l, rfl, rfl, hk, hc, HLN, HV, HR, HB⟩ := hrel
    have hz := HB.out.size
    have hln1 : l.length ≤ k := by have := HLN.out; omega
    have hk0 : (0 : Int) ≤ (k : Int) := by omega
    by_cases hlt : k < x.length
    · obtain ⟨b1, o1, e1, hc1⟩ := (H1.out.later HB.out).cellAt hlt
      subst e1
      have hkI : (k : Int) < (x.length : Int) := by omega
      have hwd := word_any _ y k wr (H2.out.later HB.out) (by omega) (by omega)
      have hdx := getD_lt HX.out k
      have hdy := getD_lt HY.out k
      obtain ⟨d, hd⟩ : ∃ d : Nat, d = x.getD k 0 := ⟨_, rfl⟩
      obtain ⟨f, hf⟩ : ∃ f : Nat, f = y.getD k 0 := ⟨_, rfl⟩
      have HD := Hid.mk' hd
      have HF := Hid.mk' hf
      rw [← hd] at hc1 hdx
      rw [← hf] at hwd hdy
      clear hd hf
      go_wp2_with fail
      refine hwd.mono ?_
      clear hwd
      rintro e w2 ⟨rfl, hw2⟩
      go_wp2_with fail
      rw [Add64_carry d f c wr hc]
      go_wp2_with ((at_builtin; go_must (refine wpList_append_lies _ rfl _ _ _ rfl w.heap.size 82 i0 _ 1 8 Tryd.underlying68 HINF.out.1 HINF.out.2.1 HINF.out.2.2.1 HINF.out.2.2.2 rfl (by omega) u5 _ _ rfl (HR.out.alloc _) ⟨wr.heap.size, 0, none⟩ 1 1 [.int .u64 (((d + f + c) % 18446744073709551616 : Nat) : Int)] rfl rfl (one_new _ _ _) (by simp [Value.oneCell']) (by omega) (by unfold maxLen; omega) (by omega) (by simp; omega) _ rfl ?_; intro g' cap' w3 hown3 hgrow3 hat3 hlt3; have HO3 := Hid.mk' hown3; have HG3 := Hid.mk' hgrow3; clear hown3 hgrow3 hat3)))
      have hst := plus_step (x := x) (y := y) (t := d + f + c) HLN.out (by rw [← HD.out, ← HF.out]) HV.out.1
      have hln := HLN.out
      refine ⟨⟨k + 1, (d + f + c) / 18446744073709551616, l ++ [(d + f + c) % 18446744073709551616], by go_num, rfl, by omega, by omega, by show _ = _; simp [hln], ⟨hst, HV.out.2.push (Nat.mod_lt _ (by decide))⟩, ?_, below_push HB.out HR.out HG3.out⟩, by simp [intOf]; omega⟩
      have := HO3.out
      show World.ownsRow _ _ _ _ _ _ _
      rw [wordCells_push]
      simpa using this
    · obtain rfl : k = x.length := by omega
      have hval : Hid (wv l + 18446744073709551616 ^ x.length * c = wv x + wv y) := by
        have := HV.out.1
        rw [List.take_length, List.take_of_length_le hyx] at this
        exact this
      have hln := HLN.out
      by_cases hc0 : c = 0
      · have hcz : ((c : Int) != 0) = false := by simp [hc0]
        have hv0 : Hid (wv l = wv x + wv y) := by
          have := hval.out
          rw [hc0, Nat.mul_zero, Nat.add_zero] at this
          exact this
        clear hc0 hln
        go_wp2_with fail
        go_ret
        have hln := HLN.out
        refine ⟨_, rfl, ⟨⟨l, HV.out.2, ?_, by rw [hv0.out]; omega, wordsAt_of_row HR.out⟩, new_row HR.out⟩, HB.out⟩
        rcases Nat.eq_zero_or_pos l.length with h0 | hp
        · exact fun i hi => by omega
        · refine noEnd_of_le HV.out.2 hp ?_
          rw [hv0.out, hln]
          have h1 := HNE.out.take_le (by omega)
          omega
      · have hcz : ((c : Int) != 0) = true := by simp [hc0]
        have HC0 := Hid.mk' hc0
        clear hc0 hln
        go_wp2_with (at_builtin; go_must (refine wpList_append_lies _ rfl _ _ _ rfl w.heap.size 82 i0 _ 1 8 Tryd.underlying68 HINF.out.1 HINF.out.2.1 HINF.out.2.2.1 HINF.out.2.2.2 rfl (by omega) u5 _ _ rfl (HR.out.alloc _) ⟨wr.heap.size, 0, none⟩ 1 1 [.int .u64 (c : Int)] rfl rfl (one_new _ _ _) (by simp [Value.oneCell']) (by omega) (by unfold maxLen; omega) (by omega) (by simp; omega) _ rfl ?_; intro g' cap' w3 hown3 hgrow3 hat3 hlt3; have HO3 := Hid.mk' hown3; have HG3 := Hid.mk' hgrow3; clear hown3 hgrow3 hat3))
        go_ret
        have hln := HLN.out
        have ho : w3.ownsRow w.heap.size 82 1 (.slice (some ⟨g', 0, none⟩) (l.length + 1) cap') (l ++ [c]).length (wordCells (l ++ [c])) := by
          rw [wordCells_push]; simpa using HO3.out
        refine ⟨_, rfl, ⟨⟨l ++ [c], HV.out.2.push (by omega), fun i hi => ?_, ?_, wordsAt_of_row ho⟩, new_row ho⟩, below_push HB.out HR.out HG3.out⟩
        · have : i = l.length := by simp at hi; omega
          subst this
          rw [wgetD_append_last]; exact HC0.out
        · rw [wv_append, wv_single, hln, hval.out]; omega

/-- The sum of any two that are not of a million words. -/
theorem Plus_new (u v : Value) (a b k : Nat) (w : World) (ha : NatAt w u a) (hb : NatAt w v b) (hka : a < 18446744073709551616 ^ k) (hkb : b < 18446744073709551616 ^ k) (hk : k ≤ 1000000) :
    Calls Tryd.prog 42 #[u, v] w fun e w' => ∃ r, e = .returned r ∧ NatNew w.heap.size w' r (a + b) ∧ Below w.heap.size w w' := by
  obtain ⟨x, hx1, hx2, rfl, hx⟩ := ha
  obtain ⟨y, hy1, hy2, rfl, hy⟩ := hb
  have lx := wlen_le_of_lt hx2 hka
  have ly := wlen_le_of_lt hy2 hkb
  rcases Nat.lt_or_ge x.length y.length with h | h
  · exact Plus_lt v u y x w hy1 hx1 hy2 hy hx h (by omega)
  · exact Plus_ge u v x y w hx1 hy1 hx2 hx hy h (by omega)
theorem Plus_any (u v : Value) (a b k : Nat) (w : World) (ha : NatAt w u a) (hb : NatAt w v b) (hka : a < 18446744073709551616 ^ k) (hkb : b < 18446744073709551616 ^ k) (hk : k ≤ 1000000) :
    Calls Tryd.prog 42 #[u, v] w fun e w' => ∃ r, e = .returned r ∧ NatAt w' r (a + b) ∧ Below w.heap.size w w' :=
  (Plus_new u v a b k w ha hb hka hkb hk).mono fun _ _ ⟨r, h1, h2, h3⟩ => ⟨r, h1, h2.1, h3⟩
end Go.Proofs.YtlnhpkmcinohdaaDoor
