/- The program's numbers without a bound, by words of 64 bits: NatOf, Times, TimesPower, Cmp. -/
import Derived.Test.YtlnhpkmcinohdaaDoorWordMath
import Derived.Test.YtlnhpkmcinohdaaDoorSides
import Derived.Test.YtlnhpkmcinohdaaDoorLaysB
import Derived.OwnWalk
import Derived.Laws.Externs
namespace Go.Proofs.YtlnhpkmcinohdaaDoor
open Go.RowKit

theorem bitLen_same : ∀ x : Nat, x < 18446744073709551616 → Lib.bitLen x = bitLen x := by
  intro x
  induction x using Nat.strongRecOn with
  | _ x ih =>
    intro h
    rcases Nat.eq_zero_or_pos x with rfl | hp
    · rw [bitLen_zero]; rfl
    · rw [Lib.bitLen_half x (by omega) h, bitLen_half hp, ih (x / 2) (by omega) (by omega)]
      omega
theorem Len64_any (x : Nat) (w : World) (h : x < 18446744073709551616) :
    Calls Tryd.prog 65 #[.int .u64 x] w fun e w' => e = .returned (.int .i64 (bitLen x : Nat)) ∧ w' = w :=
  (Any.bits_Len64 Tryd.len64A x w (by omega) (by omega)).mono fun e w' ⟨he, hw⟩ => ⟨by rw [he]; simp [bitLen_same x h], hw⟩

theorem mask_mod (z : Int) : bits .and .u64 (z % 18446744073709551616) 4294967295 = z % 18446744073709551616 % 4294967296 := by
  refine and_low32 _ ?_ ?_ <;> omega

set_option maxRecDepth 10000 in
set_option maxHeartbeats 1000000 in
theorem Mul64_any (x y : Nat) (w : World) (hx : x < 18446744073709551616) (hy : y < 18446744073709551616) :
    Calls Tryd.prog 60 #[.int .u64 x, .int .u64 y] w fun e w' => e = .returned (.tuple #[.int .u64 ((x * y / 18446744073709551616 : Nat) : Int), .int .u64 ((x * y % 18446744073709551616 : Nat) : Int)]) ∧ w' = w := by
  have h1 := and_low32 (x : Int) (by omega) (by omega)
  have h2 := and_low32 (y : Int) (by omega) (by omega)
  have hm := mul64_arith x y (by omega) (by omega) (by omega) (by omega)
  have HM := Hid.mk' hm
  clear hm
  go_enter Tryd.func60, Tryd.ntmps60
  go_wp2_with fail
  go_ret2
  refine ⟨?_, rfl⟩
  have e1 : ((x * y / 18446744073709551616 : Nat) : Int) = (x : Int) * (y : Int) / 18446744073709551616 := by simp
  have e2 : ((x * y % 18446744073709551616 : Nat) : Int) = (x : Int) * (y : Int) % 18446744073709551616 := by simp
  rw [e1, e2]
  simp only [IntKind.wrap_u64, mask_mod]
  rw [HM.out]
  rfl

theorem Add64_any (x y : Nat) (w : World) :
    (callFunc 57 #[.int .u64 x, .int .u64 y, .int .u64 0]).run Tryd.prog w =
      .ok (.value (.tuple #[.int .u64 (((x + y) % 18446744073709551616 : Nat) : Int), .int .u64 (((x + y) / 18446744073709551616 : Nat) : Int)])) w := by
  rw [run_callFunc_extern Tryd.func57 (by kernel_rfl) (by kernel_rfl) (by kernel_rfl) (e := add64Entry) (by kernel_rfl), run_add64 x y 0 (by omega) (by omega) (by omega) (by omega)]
  simp only [Result.andThen]
  congr 5 <;> omega

/-- A slice of words. -/
def WordsAt (w : World) (v : Value) (l : List Nat) : Prop := (∃ ad cap, v = .slice ad 0 cap ∧ l = []) ∨ ∃ b o cap, v = .slice (some ⟨b, o, none⟩) l.length cap ∧ l.length ≤ cap ∧ 0 < l.length ∧ ∀ i, i < l.length → w.cell? ⟨b, o + i, none⟩ = some (.int .u64 ((l.getD i 0 : Nat) : Int))
theorem WordsAt.later {w w' : World} {v : Value} {l : List Nat} (h : WordsAt w v l) (hb : Below w.heap.size w w') : WordsAt w' v l := by
  rcases h with h | ⟨b, o, cap, h1, h2, h3, h4⟩
  · exact Or.inl h
  · exact Or.inr ⟨b, o, cap, h1, h2, h3, fun i hi => by rw [hb.cell (cell_lt (h4 i hi))]; exact h4 i hi⟩
/-- A number without a bound. -/
def NatAt (w : World) (v : Value) (n : Nat) : Prop := ∃ l, Wrd l ∧ NoEnd l ∧ wv l = n ∧ WordsAt w v l
theorem NatAt.later {w w' : World} {v : Value} {n : Nat} (h : NatAt w v n) (hb : Below w.heap.size w w') : NatAt w' v n := by
  obtain ⟨l, h1, h2, h3, h4⟩ := h
  exact ⟨l, h1, h2, h3, h4.later hb⟩
theorem WordsAt.form {w : World} {v : Value} {l : List Nat} (h : WordsAt w v l) : ∃ ad cap, v = .slice ad l.length cap := by
  rcases h with ⟨ad, cap, rfl, rfl⟩ | ⟨b, o, cap, rfl, _⟩
  · exact ⟨_, _, rfl⟩
  · exact ⟨_, _, rfl⟩
theorem WordsAt.cellAt {w : World} {ad : Option Addr} {n cap : Nat} {l : List Nat} (h : WordsAt w (.slice ad n cap) l) {k : Nat} (hk : k < l.length) : ∃ b o, ad = some ⟨b, o, none⟩ ∧ w.cell? ⟨b, o + k, none⟩ = some (.int .u64 ((l.getD k 0 : Nat) : Int)) := by
  rcases h with ⟨_, _, _, rfl⟩ | ⟨b, o, c, h1, _, _, h4⟩
  · simp at hk
  · simp only [Value.slice.injEq] at h1
    exact ⟨b, o, h1.1, h4 k hk⟩
/-- Words as cells. -/
def wordCells (l : List Nat) : List Value := l.map fun d => .int .u64 ((d : Nat) : Int)
theorem wordCells_push (l : List Nat) (d : Nat) : wordCells (l ++ [d]) = wordCells l ++ [.int .u64 (d : Int)] := by simp [wordCells]
theorem wordsAt_of_row {w : World} {base : Nat} {v : Value} {l : List Nat} (h : w.ownsRow base 82 1 v l.length (wordCells l)) : WordsAt w v l := by
  obtain ⟨hl, hr⟩ := h
  rcases hr with ⟨rfl, h0⟩ | ⟨g, cap, cur, rfl, hg, hh, h1, h2, h3, h4⟩
  · exact Or.inl ⟨none, 0, by rfl, List.eq_nil_of_length_eq_zero h0⟩
  · rcases Nat.eq_zero_or_pos l.length with h0 | hpos
    · exact Or.inl ⟨_, _, by rw [h0], List.eq_nil_of_length_eq_zero h0⟩
    · refine Or.inr ⟨g, 0, cap, rfl, h1, hpos, fun i hi => ?_⟩
      have e1 : w.cell? ⟨g, 0 + i, none⟩ = cur.toList[i]? := by simp [World.cell?, hh]
      have e2 : cur.toList[i]? = (wordCells l)[i]? := by rw [← h4, List.getElem?_take_of_lt (by omega)]
      rw [e1, e2]
      simp [wordCells, hi]

theorem Tryd.infoWord : (Tryd.prog.info? 82).map (fun i => (i.zero, i.size, i.bytes)) = some (some (.int .u64 0), 1, 8) := by kernel_rfl

theorem NatOf_any (n : Nat) (w : World) (h0 : 0 < n) (h : n < 18446744073709551616) :
    Calls Tryd.prog 41 #[.int .u64 n] w fun e w' => ∃ v, e = .returned v ∧ NatAt w' v n ∧ Below w.heap.size w w' := by
  have hz : ((n : Int) == 0) = false := by simp; omega
  go_enter Tryd.func41, Tryd.ntmps41
  go_wp2_with fail
  go_ret
  refine ⟨_, rfl, ⟨[n], (fun i hi => by simp at hi; subst hi; simpa using h), (fun i hi => by simp at hi; subst hi; simp; omega), wv_single n, Or.inr ⟨w.heap.size, 0, 1, rfl, by simp, by simp, fun i hi => ?_⟩⟩, (Below.refl _ _).alloc (Nat.le_refl _) _⟩
  have : i = 0 := by simp at hi; exact hi
  subst this
  simp

theorem noEnd_of_le {l : List Nat} (hw : Wrd l) (hp : 0 < l.length) (h : 18446744073709551616 ^ (l.length - 1) ≤ wv l) : NoEnd l := fun i hi => by
  intro h0
  have h1 := wv_take_succ l i (by omega)
  rw [h0, Nat.mul_zero, Nat.add_zero, hi, List.take_length] at h1
  have h2 := wv_lt _ (hw.take i)
  rw [List.length_take, Nat.min_eq_left (by omega)] at h2
  rw [show l.length - 1 = i by omega] at h
  omega
theorem times_step {l x : List Nat} {m k c t : Nat} (hl : l.length = k) (hk : k < x.length) (ht : t = x.getD k 0 * m + c) (h : wv l + 18446744073709551616 ^ k * c = wv (x.take k) * m) :
    wv (l ++ [t % 18446744073709551616]) + 18446744073709551616 ^ (k + 1) * (t / 18446744073709551616) = wv (x.take (k + 1)) * m := by
  rw [wv_append, wv_single, hl, Nat.pow_succ, Nat.add_assoc, Nat.mul_assoc, ← Nat.mul_add, Nat.mod_add_div, wv_take_succ x k hk, Nat.add_mul, ← h, ht]
  grind
theorem carry_parts {d m c : Nat} (hd : d < 18446744073709551616) (hm : m < 18446744073709551616) (hc : c < 18446744073709551616) :
    d * m / 18446744073709551616 + (d * m % 18446744073709551616 + c) / 18446744073709551616 = (d * m + c) / 18446744073709551616 ∧ (d * m % 18446744073709551616 + c) % 18446744073709551616 = (d * m + c) % 18446744073709551616 ∧ (d * m + c) / 18446744073709551616 < 18446744073709551616 ∧ d * m / 18446744073709551616 < 18446744073709551616 := by
  have h := Nat.mul_le_mul (show d ≤ 18446744073709551615 by omega) (show m ≤ 18446744073709551615 by omega)
  generalize d * m = z at *
  refine ⟨by omega, by omega, by omega, by omega⟩

set_option maxRecDepth 10000 in
set_option maxHeartbeats 2000000 in
theorem Times_words (u : Value) (x : List Nat) (m : Nat) (w : World) (hx : Wrd x) (hne : NoEnd x) (h1 : WordsAt w u x) (hm0 : 0 < m) (hm : m < 18446744073709551616) (hl : x.length ≤ 1000000) :
    Calls Tryd.prog 44 #[u, .int .u64 m] w fun e w' => ∃ v, e = .returned v ∧ NatAt w' v (wv x * m) ∧ Below w.heap.size w w' := by
  obtain ⟨i0, hi, hz0, hz1, hz2⟩ := info_parts Tryd.infoWord
  have HINF : Hid (Tryd.prog.info? 82 = some i0 ∧ i0.zero = some (.int .u64 0) ∧ i0.size = 1 ∧ i0.bytes = 8) := ⟨hi, hz0, hz1, hz2⟩
  clear hi hz0 hz1 hz2
  obtain ⟨a1, c1, rfl⟩ := h1.form
  have H1 := Hid.mk' h1
  have HX := Hid.mk' hx
  have HNE := Hid.mk' hne
  clear h1 hx hne
  have hmz : ((m : Int) == 0) = false := by simp; omega
  go_enter Tryd.func44, Tryd.ntmps44
  go_wp2_with (at_make; go_must (refine wpList_make_own _ rfl _ _ _ rfl w.heap.size 82 i0 _ 1 Tryd.underlying68 HINF.out.1 HINF.out.2.1 HINF.out.2.2.1 _ _ _ (x.length + 1) rfl rfl (by omega) (by rw [HINF.out.2.2.2]; omega) (by unfold maxLen; omega) (Nat.le_refl _) ?_; intro w1 hown hgrow; have HO := Hid.mk' hown; have HG := Hid.mk' hgrow; clear hown hgrow))
  go_loopw [5, 6, 20] (fun s t i wr => ∃ (k c : Nat) (l : List Nat), i = .int .i64 k ∧ t = .int .u64 c ∧ k ≤ x.length ∧ c < 18446744073709551616 ∧ Hid (l.length = k) ∧ Hid (wv l + 18446744073709551616 ^ k * c = wv (x.take k) * m ∧ Wrd l) ∧ Hid (wr.ownsRow w.heap.size 82 1 s l.length (wordCells l)) ∧ Hid (Below w.heap.size w wr)) (fun _ _ i _ => x.length - (intOf i).toNat)
  case atStart => exact ⟨0, 0, [], rfl, rfl, by omega, by omega, rfl, ⟨by simp [wv], (fun i hi => by simp at hi)⟩, HO.out, (Below.refl _ _).grown HG.out (Nat.le_refl _) (fun k h => by cases h)⟩
  case round =>
    clear HO HG
    obtain ⟨k, c, l, rfl, rfl, hk, hc, HLN, HV, HR, HB⟩ := hrel
    have hz := HB.out.size
    have hln1 : l.length ≤ k := by have := HLN.out; omega
    have hk0 : (0 : Int) ≤ (k : Int) := by omega
    by_cases hlt : k < x.length
    · obtain ⟨b1, o1, rfl, hc1⟩ := (H1.out.later HB.out).cellAt hlt
      have hdx := HX.out k hlt
      obtain ⟨d, hd⟩ : ∃ d : Nat, d = x.getD k 0 := ⟨_, rfl⟩
      have HD := Hid.mk' hd
      rw [← hd] at hc1 hdx
      clear hd
      have hkI : (k : Int) < (x.length : Int) := by omega
      have hmul := Mul64_any d m wr hdx hm
      have hcp := carry_parts hdx hm hc
      obtain ⟨H, hH⟩ : ∃ H, H = d * m / 18446744073709551616 := ⟨_, rfl⟩
      obtain ⟨L, hL⟩ : ∃ L, L = d * m % 18446744073709551616 := ⟨_, rfl⟩
      have hLb : L < 18446744073709551616 := by rw [hL]; exact Nat.mod_lt _ (by decide)
      rw [← hH, ← hL] at hcp hmul
      have hov : (L + c) / 18446744073709551616 ≤ 1 := by omega
      have hHb : H < 18446744073709551616 := hcp.2.2.2
      have hHc : H + (L + c) / 18446744073709551616 < 18446744073709551616 := by omega
      have HCP := Hid.mk' hcp
      clear hH hL hcp
      go_wp2_with fail
      refine hmul.mono ?_
      clear hmul
      rintro e w2 ⟨rfl, hw2⟩
      go_wp2_with fail
      rw [Add64_any L c wr]
      go_wp2_with ((at_builtin; go_must (refine wpList_append_lies _ rfl _ _ _ rfl w.heap.size 82 i0 _ 1 8 Tryd.underlying68 HINF.out.1 HINF.out.2.1 HINF.out.2.2.1 HINF.out.2.2.2 rfl (by omega) u5 _ _ rfl (HR.out.alloc _) ⟨wr.heap.size, 0, none⟩ 1 1 [.int .u64 (((L + c) % 18446744073709551616 : Nat) : Int)] rfl rfl (one_new _ _ _) (by simp [Value.oneCell']) (by omega) (by unfold maxLen; omega) (by omega) (by simp; omega) _ rfl ?_; intro g' cap' w3 hown3 hgrow3 hat3 hlt3; have HO3 := Hid.mk' hown3; have HG3 := Hid.mk' hgrow3; clear hown3 hgrow3 hat3)))
      have hst := times_step (t := d * m + c) HLN.out hlt (by rw [← HD.out]) HV.out.1
      have hln := HLN.out
      refine ⟨⟨k + 1, (d * m + c) / 18446744073709551616, l ++ [(d * m + c) % 18446744073709551616], by go_num, ?_, by omega, HCP.out.2.2.1, by show _ = _; simp [hln], ⟨hst, HV.out.2.push (Nat.mod_lt _ (by decide))⟩, ?_, below_push HB.out HR.out HG3.out⟩, by simp [intOf]; omega⟩
      · rw [← HCP.out.1]; congr 1
      · have := HO3.out
        rw [HCP.out.2.1] at this
        show World.ownsRow _ _ _ _ _ _ _
        rw [wordCells_push]
        simpa using this
    · obtain rfl : k = x.length := by omega
      have hval : Hid (wv l + 18446744073709551616 ^ x.length * c = wv x * m) := by
        have := HV.out.1
        rw [List.take_length] at this
        exact this
      have hln := HLN.out
      by_cases hc0 : c = 0
      · have hcz : ((c : Int) != 0) = false := by simp [hc0]
        have hv0 : Hid (wv l = wv x * m) := by
          have := hval.out
          rw [hc0, Nat.mul_zero, Nat.add_zero] at this
          exact this
        clear hc0 hln
        go_wp2_with fail
        go_ret
        have hln := HLN.out
        refine ⟨_, rfl, ⟨l, HV.out.2, ?_, hv0.out, wordsAt_of_row HR.out⟩, HB.out⟩
        rcases Nat.eq_zero_or_pos l.length with h0 | hp
        · exact fun i hi => by omega
        · refine noEnd_of_le HV.out.2 hp ?_
          rw [hv0.out, hln]
          have h1 := HNE.out.take_le (by omega)
          have h2 : wv x * 1 ≤ wv x * m := Nat.mul_le_mul_left _ hm0
          omega
      · have hcz : ((c : Int) != 0) = true := by simp [hc0]
        have HC0 := Hid.mk' hc0
        clear hc0 hln
        go_wp2_with (at_builtin; go_must (refine wpList_append_lies _ rfl _ _ _ rfl w.heap.size 82 i0 _ 1 8 Tryd.underlying68 HINF.out.1 HINF.out.2.1 HINF.out.2.2.1 HINF.out.2.2.2 rfl (by omega) u5 _ _ rfl (HR.out.alloc _) ⟨wr.heap.size, 0, none⟩ 1 1 [.int .u64 (c : Int)] rfl rfl (one_new _ _ _) (by simp [Value.oneCell']) (by omega) (by unfold maxLen; omega) (by omega) (by simp; omega) _ rfl ?_; intro g' cap' w3 hown3 hgrow3 hat3 hlt3; have HO3 := Hid.mk' hown3; have HG3 := Hid.mk' hgrow3; clear hown3 hgrow3 hat3))
        go_ret
        have hln := HLN.out
        have ho : w3.ownsRow w.heap.size 82 1 (.slice (some ⟨g', 0, none⟩) (l.length + 1) cap') (l ++ [c]).length (wordCells (l ++ [c])) := by
          rw [wordCells_push]; simpa using HO3.out
        refine ⟨_, rfl, ⟨l ++ [c], HV.out.2.push hc, fun i hi => ?_, ?_, wordsAt_of_row ho⟩, below_push HB.out HR.out HG3.out⟩
        · have : i = l.length := by simp at hi; omega
          subst this
          rw [wgetD_append_last]; exact HC0.out
        · rw [wv_append, wv_single, hln]; exact hval.out

/-- Times a word that is not 0. -/
theorem Times_any (u : Value) (n m k : Nat) (w : World) (h : NatAt w u n) (hm0 : 0 < m) (hm : m < 18446744073709551616) (hk : n < 18446744073709551616 ^ k) (hk6 : k ≤ 1000000) :
    Calls Tryd.prog 44 #[u, .int .u64 m] w fun e w' => ∃ v, e = .returned v ∧ NatAt w' v (n * m) ∧ Below w.heap.size w w' := by
  obtain ⟨x, h1, h2, rfl, h3⟩ := h
  exact Times_words u x m w h1 h2 h3 hm0 hm (by have := wlen_le_of_lt h2 hk; omega)

theorem power_gather {a g q i t : Nat} (h : a * g = t * q ^ i) : a * (g * q) = t * q ^ (i + 1) := by
  rw [← Nat.mul_assoc, h, Nat.pow_succ, Nat.mul_assoc]
theorem power_flush {a g q i t : Nat} (h : a * g = t * q ^ i) : (a * g) * q = t * q ^ (i + 1) := by
  rw [h, Nat.pow_succ, Nat.mul_assoc]

end Go.Proofs.YtlnhpkmcinohdaaDoor
