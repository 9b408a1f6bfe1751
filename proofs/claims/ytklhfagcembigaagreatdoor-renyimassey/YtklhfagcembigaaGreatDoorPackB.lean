/- The program's numbers without a bound, by words of 64 bits: NatOf, Times, TimesPower, Cmp. -/
import Derived.Test.YtklhfagcembigaaGreatDoorPackA
import Derived.Test.YtklhfagcembigaaGreatDoorSides
import Derived.OwnWalk
import Derived.Laws.Externs
import Derived.Test.YtklhfagcembigaaGreatDoorSame
import Derived.Test.YtklhfagcembigaaGreatDoorInts
namespace Go.Proofs.YtklhfagcembigaaGreatDoor
open Go.RowKit

theorem bitLen_same : ∀ x : Nat, x < 18446744073709551616 → Lib.bitLen x = bitLen x := by
  intro x
  induction x using Nat.strongRecOn with
  | _ x ih =>
    intro h
    rcases Nat.eq_zero_or_pos x with rfl | hp
    · rw [bitLen_zero]; rfl
    · rw [Lib.bitLen_half x (by omega) h, bitLen_half hp, ih (x / 2) (by omega) (by omega)]
      omega
theorem Len_any (x : Nat) (w : World) (h : x < 18446744073709551616) :
    Calls Tryz.prog 76 #[.int .u64 x] w fun e w' => e = .returned (.int .i64 (bitLen x : Nat)) ∧ w' = w :=
  (Any.bits_Len Tryz.lenA x w (by omega) (by omega)).mono fun e w' ⟨he, hw⟩ => ⟨by rw [he]; simp [bitLen_same x h], hw⟩
theorem Len64_any (x : Nat) (w : World) (h : x < 18446744073709551616) :
    Calls Tryz.prog 109 #[.int .u64 x] w fun e w' => e = .returned (.int .i64 (bitLen x : Nat)) ∧ w' = w :=
  (Any.bits_Len64 Tryz.len64A x w (by omega) (by omega)).mono fun e w' ⟨he, hw⟩ => ⟨by rw [he]; simp [bitLen_same x h], hw⟩

theorem mask_mod (z : Int) : bits .and .u64 (z % 18446744073709551616) 4294967295 = z % 18446744073709551616 % 4294967296 := by
  refine and_low32 _ ?_ ?_ <;> omega

set_option maxRecDepth 10000 in
set_option maxHeartbeats 1000000 in
theorem Mul64_any (x y : Nat) (w : World) (hx : x < 18446744073709551616) (hy : y < 18446744073709551616) :
    Calls Tryz.prog 110 #[.int .u64 x, .int .u64 y] w fun e w' => e = .returned (.tuple #[.int .u64 ((x * y / 18446744073709551616 : Nat) : Int), .int .u64 ((x * y % 18446744073709551616 : Nat) : Int)]) ∧ w' = w := by
  have h1 := and_low32 (x : Int) (by omega) (by omega)
  have h2 := and_low32 (y : Int) (by omega) (by omega)
  have hm := mul64_arith x y (by omega) (by omega) (by omega) (by omega)
  have HM := Hid.mk' hm
  clear hm
  go_enter Tryz.func110, Tryz.ntmps110
  go_wp2_with fail
  go_ret2
  refine ⟨?_, rfl⟩
  have e1 : ((x * y / 18446744073709551616 : Nat) : Int) = (x : Int) * (y : Int) / 18446744073709551616 := by simp
  have e2 : ((x * y % 18446744073709551616 : Nat) : Int) = (x : Int) * (y : Int) % 18446744073709551616 := by simp
  rw [e1, e2]
  simp only [IntKind.wrap_u64, mask_mod]
  rw [HM.out]
  rfl

theorem Add64_any (x y : Nat) (w : World) :
    (callFunc 124 #[.int .u64 x, .int .u64 y, .int .u64 0]).run Tryz.prog w =
      .ok (.value (.tuple #[.int .u64 (((x + y) % 18446744073709551616 : Nat) : Int), .int .u64 (((x + y) / 18446744073709551616 : Nat) : Int)])) w := by
  rw [run_callFunc_extern Tryz.func124 (by kernel_rfl) (by kernel_rfl) (by kernel_rfl) (e := add64Entry) (by kernel_rfl), run_add64 x y 0 (by omega) (by omega) (by omega) (by omega)]
  simp only [Result.andThen]
  congr 5 <;> omega

/-- A slice of words. -/
def WordsAt (w : World) (v : Value) (l : List Nat) : Prop := (∃ ad cap, v = .slice ad 0 cap ∧ l = []) ∨ ∃ b o cap, v = .slice (some ⟨b, o, none⟩) l.length cap ∧ l.length ≤ cap ∧ 0 < l.length ∧ ∀ i, i < l.length → w.cell? ⟨b, o + i, none⟩ = some (.int .u64 ((l.getD i 0 : Nat) : Int))
theorem WordsAt.later {w w' : World} {v : Value} {l : List Nat} (h : WordsAt w v l) (hb : Below w.heap.size w w') : WordsAt w' v l := by
  rcases h with h | ⟨b, o, cap, h1, h2, h3, h4⟩
  · exact Or.inl h
  · exact Or.inr ⟨b, o, cap, h1, h2, h3, fun i hi => by rw [hb.cell (cell_lt (h4 i hi))]; exact h4 i hi⟩
/-- A number without a bound. -/
def NatAt (w : World) (v : Value) (n : Nat) : Prop := ∃ l, Wrd l ∧ NoEnd l ∧ wv l = n ∧ WordsAt w v l
theorem NatAt.later {w w' : World} {v : Value} {n : Nat} (h : NatAt w v n) (hb : Below w.heap.size w w') : NatAt w' v n := by
  obtain ⟨l, h1, h2, h3, h4⟩ := h
  exact ⟨l, h1, h2, h3, h4.later hb⟩
theorem WordsAt.form {w : World} {v : Value} {l : List Nat} (h : WordsAt w v l) : ∃ ad cap, v = .slice ad l.length cap := by
  rcases h with ⟨ad, cap, rfl, rfl⟩ | ⟨b, o, cap, rfl, _⟩
  · exact ⟨_, _, rfl⟩
  · exact ⟨_, _, rfl⟩
theorem WordsAt.cellAt {w : World} {ad : Option Addr} {n cap : Nat} {l : List Nat} (h : WordsAt w (.slice ad n cap) l) {k : Nat} (hk : k < l.length) : ∃ b o, ad = some ⟨b, o, none⟩ ∧ w.cell? ⟨b, o + k, none⟩ = some (.int .u64 ((l.getD k 0 : Nat) : Int)) := by
  rcases h with ⟨_, _, _, rfl⟩ | ⟨b, o, c, h1, _, _, h4⟩
  · simp at hk
  · simp only [Value.slice.injEq] at h1
    exact ⟨b, o, h1.1, h4 k hk⟩
/-- Words as cells. -/
def wordCells (l : List Nat) : List Value := l.map fun d => .int .u64 ((d : Nat) : Int)
theorem wordCells_push (l : List Nat) (d : Nat) : wordCells (l ++ [d]) = wordCells l ++ [.int .u64 (d : Int)] := by simp [wordCells]
theorem wordsAt_of_row {w : World} {base : Nat} {v : Value} {l : List Nat} (h : w.ownsRow base 118 1 v l.length (wordCells l)) : WordsAt w v l := by
  obtain ⟨hl, hr⟩ := h
  rcases hr with ⟨rfl, h0⟩ | ⟨g, cap, cur, rfl, hg, hh, h1, h2, h3, h4⟩
  · exact Or.inl ⟨none, 0, by rfl, List.eq_nil_of_length_eq_zero h0⟩
  · rcases Nat.eq_zero_or_pos l.length with h0 | hpos
    · exact Or.inl ⟨_, _, by rw [h0], List.eq_nil_of_length_eq_zero h0⟩
    · refine Or.inr ⟨g, 0, cap, rfl, h1, hpos, fun i hi => ?_⟩
      have e1 : w.cell? ⟨g, 0 + i, none⟩ = cur.toList[i]? := by simp [World.cell?, hh]
      have e2 : cur.toList[i]? = (wordCells l)[i]? := by rw [← h4, List.getElem?_take_of_lt (by omega)]
      rw [e1, e2]
      simp [wordCells, hi]

theorem Tryz.infoWord : (Tryz.prog.info? 118).map (fun i => (i.zero, i.size, i.bytes)) = some (some (.int .u64 0), 1, 8) := by kernel_rfl

theorem NatOf_any (n : Nat) (w : World) (h0 : 0 < n) (h : n < 18446744073709551616) :
    Calls Tryz.prog 78 #[.int .u64 n] w fun e w' => ∃ v, e = .returned v ∧ NatAt w' v n ∧ Below w.heap.size w w' := by
  have hz : ((n : Int) == 0) = false := by simp; omega
  go_enter Tryz.func78, Tryz.ntmps78
  go_wp2_with fail
  go_ret
  refine ⟨_, rfl, ⟨[n], (fun i hi => by simp at hi; subst hi; simpa using h), (fun i hi => by simp at hi; subst hi; simp; omega), wv_single n, Or.inr ⟨w.heap.size, 0, 1, rfl, by simp, by simp, fun i hi => ?_⟩⟩, (Below.refl _ _).alloc (Nat.le_refl _) _⟩
  have : i = 0 := by simp at hi; exact hi
  subst this
  simp

theorem noEnd_of_le {l : List Nat} (hw : Wrd l) (hp : 0 < l.length) (h : 18446744073709551616 ^ (l.length - 1) ≤ wv l) : NoEnd l := fun i hi => by
  intro h0
  have h1 := wv_take_succ l i (by omega)
  rw [h0, Nat.mul_zero, Nat.add_zero, hi, List.take_length] at h1
  have h2 := wv_lt _ (hw.take i)
  rw [List.length_take, Nat.min_eq_left (by omega)] at h2
  rw [show l.length - 1 = i by omega] at h
  omega
theorem times_step {l x : List Nat} {m k c t : Nat} (hl : l.length = k) (hk : k < x.length) (ht : t = x.getD k 0 * m + c) (h : wv l + 18446744073709551616 ^ k * c = wv (x.take k) * m) :
    wv (l ++ [t % 18446744073709551616]) + 18446744073709551616 ^ (k + 1) * (t / 18446744073709551616) = wv (x.take (k + 1)) * m := by
  rw [wv_append, wv_single, hl, Nat.pow_succ, Nat.add_assoc, Nat.mul_assoc, ← Nat.mul_add, Nat.mod_add_div, wv_take_succ x k hk, Nat.add_mul, ← h, ht]
  grind
theorem carry_parts {d m c : Nat} (hd : d < 18446744073709551616) (hm : m < 18446744073709551616) (hc : c < 18446744073709551616) :
    d * m / 18446744073709551616 + (d * m % 18446744073709551616 + c) / 18446744073709551616 = (d * m + c) / 18446744073709551616 ∧ (d * m % 18446744073709551616 + c) % 18446744073709551616 = (d * m + c) % 18446744073709551616 ∧ (d * m + c) / 18446744073709551616 < 18446744073709551616 ∧ d * m / 18446744073709551616 < 18446744073709551616 := by
  have h := Nat.mul_le_mul (show d ≤ 18446744073709551615 by omega) (show m ≤ 18446744073709551615 by omega)
  generalize d * m = z at *
  refine ⟨by omega, by omega, by omega, by omega⟩

set_option maxRecDepth 10000 in
set_option maxHeartbeats 2000000 in
theorem Times_words (u : Value) (x : List Nat) (m : Nat) (w : World) (hx : Wrd x) (hne : NoEnd x) (h1 : WordsAt w u x) (hm0 : 0 < m) (hm : m < 18446744073709551616) (hl : x.length ≤ 1000000) :
    Calls Tryz.prog 111 #[u, .int .u64 m] w fun e w' => ∃ v, e = .returned v ∧ NatAt w' v (wv x * m) ∧ Below w.heap.size w w' := by
  obtain ⟨i0, hi, hz0, hz1, hz2⟩ := info_parts Tryz.infoWord
  have HINF : Hid (Tryz.prog.info? 118 = some i0 ∧ i0.zero = some (.int .u64 0) ∧ i0.size = 1 ∧ i0.bytes = 8) := ⟨hi, hz0, hz1, hz2⟩
  clear hi hz0 hz1 hz2
  obtain ⟨a1, c1, rfl⟩ := h1.form
  have H1 := Hid.mk' h1
  have HX := Hid.mk' hx
  have HNE := Hid.mk' hne
  clear h1 hx hne
  have hmz : ((m : Int) == 0) = false := by simp; omega
  go_enter Tryz.func111, Tryz.ntmps111
  go_wp2_with (at_make; go_must (refine wpList_make_own _ rfl _ _ _ rfl w.heap.size 118 i0 _ 1 Tryz.underlying78 HINF.out.1 HINF.out.2.1 HINF.out.2.2.1 _ _ _ (x.length + 1) rfl rfl (by omega) (by rw [HINF.out.2.2.2]; omega) (by unfold maxLen; omega) (Nat.le_refl _) ?_; intro w1 hown hgrow; have HO := Hid.mk' hown; have HG := Hid.mk' hgrow; clear hown hgrow))
  go_loopw [5, 6, 20] (fun s t i wr => ∃ (k c : Nat) (l : List Nat), i = .int .i64 k ∧ t = .int .u64 c ∧ k ≤ x.length ∧ c < 18446744073709551616 ∧ Hid (l.length = k) ∧ Hid (wv l + 18446744073709551616 ^ k * c = wv (x.take k) * m ∧ Wrd l) ∧ Hid (wr.ownsRow w.heap.size 118 1 s l.length (wordCells l)) ∧ Hid (Below w.heap.size w wr)) (fun _ _ i _ => x.length - (intOf i).toNat)
  case atStart => exact ⟨0, 0, [], rfl, rfl, by omega, by omega, rfl, ⟨by simp [wv], (fun i hi => by simp at hi)⟩, HO.out, (Below.refl _ _).grown HG.out (Nat.le_refl _) (fun k h => by cases h)⟩
  case round =>
    clear HO HG
    obtain ⟨k, c, l, rfl, rfl, hk, hc, HLN, HV, HR, HB⟩ := hrel
    have hz := HB.out.size
    have hln1 : l.length ≤ k := by have := HLN.out; omega
    have hk0 : (0 : Int) ≤ (k : Int) := by omega
    by_cases hlt : k < x.length
    · obtain ⟨b1, o1, rfl, hc1⟩ := (H1.out.later HB.out).cellAt hlt
      have hdx := HX.out k hlt
      obtain ⟨d, hd⟩ : ∃ d : Nat, d = x.getD k 0 := ⟨_, rfl⟩
      have HD := Hid.mk' hd
      rw [← hd] at hc1 hdx
      clear hd
      have hkI : (k : Int) < (x.length : Int) := by omega
      have hmul := Mul64_any d m wr hdx hm
      have hcp := carry_parts hdx hm hc
      obtain ⟨H, hH⟩ : ∃ H, H = d * m / 18446744073709551616 := ⟨_, rfl⟩
      obtain ⟨L, hL⟩ : ∃ L, L = d * m % 18446744073709551616 := ⟨_, rfl⟩
      have hLb : L < 18446744073709551616 := by rw [hL]; exact Nat.mod_lt _ (by decide)
      rw [← hH, ← hL] at hcp hmul
      have hov : (L + c) / 18446744073709551616 ≤ 1 := by omega
      have hHb : H < 18446744073709551616 := hcp.2.2.2
      have hHc : H + (L + c) / 18446744073709551616 < 18446744073709551616 := by omega
      have HCP := Hid.mk' hcp
      clear hH hL hcp
      go_wp2_with fail
      refine hmul.mono ?_
      clear hmul
      rintro e w2 ⟨rfl, hw2⟩
      go_wp2_with fail
      rw [Add64_any L c wr]
      go_wp2_with ((at_builtin; go_must (refine wpList_append_lies _ rfl _ _ _ rfl w.heap.size 118 i0 _ 1 8 Tryz.underlying78 HINF.out.1 HINF.out.2.1 HINF.out.2.2.1 HINF.out.2.2.2 rfl (by omega) u5 _ _ rfl (HR.out.alloc _) ⟨wr.heap.size, 0, none⟩ 1 1 [.int .u64 (((L + c) % 18446744073709551616 : Nat) : Int)] rfl rfl (one_new _ _ _) (by simp [Value.oneCell']) (by omega) (by unfold maxLen; omega) (by omega) (by simp; omega) _ rfl ?_; intro g' cap' w3 hown3 hgrow3 hat3 hlt3; have HO3 := Hid.mk' hown3; have HG3 := Hid.mk' hgrow3; clear hown3 hgrow3 hat3)))
      have hst := times_step (t := d * m + c) HLN.out hlt (by rw [← HD.out]) HV.out.1
      have hln := HLN.out
      refine ⟨⟨k + 1, (d * m + c) / 18446744073709551616, l ++ [(d * m + c) % 18446744073709551616], by go_num, ?_, by omega, HCP.out.2.2.1, by show _ = _; simp [hln], ⟨hst, HV.out.2.push (Nat.mod_lt _ (by decide))⟩, ?_, below_push HB.out HR.out HG3.out⟩, by simp [intOf]; omega⟩
      · rw [← HCP.out.1]; congr 1
      · have := HO3.out
        rw [HCP.out.2.1] at this
        show World.ownsRow _ _ _ _ _ _ _
        rw [wordCells_push]
        simpa using this
    · obtain rfl : k = x.length := by omega
      have hval : Hid (wv l + 18446744073709551616 ^ x.length * c = wv x * m) := by
        have := HV.out.1
        rw [List.take_length] at this
        exact this
      have hln := HLN.out
      by_cases hc0 : c = 0
      · have hcz : ((c : Int) != 0) = false := by simp [hc0]
        have hv0 : Hid (wv l = wv x * m) := by
          have := hval.out
          rw [hc0, Nat.mul_zero, Nat.add_zero] at this
          exact this
        clear hc0 hln
        go_wp2_with fail
        go_ret
        have hln := HLN.out
        refine ⟨_, rfl, ⟨l, HV.out.2, ?_, hv0.out, wordsAt_of_row HR.out⟩, HB.out⟩
        rcases Nat.eq_zero_or_pos l.length with h0 | hp
        · exact fun i hi => by omega
        · refine noEnd_of_le HV.out.2 hp ?_
          rw [hv0.out, hln]
          have h1 := HNE.out.take_le (by omega)
          have h2 : wv x * 1 ≤ wv x * m := Nat.mul_le_mul_left _ hm0
          omega
      · have hcz : ((c : Int) != 0) = true := by simp [hc0]
        have HC0 := Hid.mk' hc0
        clear hc0 hln
        go_wp2_with (at_builtin; go_must (refine wpList_append_lies _ rfl _ _ _ rfl w.heap.size 118 i0 _ 1 8 Tryz.underlying78 HINF.out.1 HINF.out.2.1 HINF.out.2.2.1 HINF.out.2.2.2 rfl (by omega) u5 _ _ rfl (HR.out.alloc _) ⟨wr.heap.size, 0, none⟩ 1 1 [.int .u64 (c : Int)] rfl rfl (one_new _ _ _) (by simp [Value.oneCell']) (by omega) (by unfold maxLen; omega) (by omega) (by simp; omega) _ rfl ?_; intro g' cap' w3 hown3 hgrow3 hat3 hlt3; have HO3 := Hid.mk' hown3; have HG3 := Hid.mk' hgrow3; clear hown3 hgrow3 hat3))
        go_ret
        have hln := HLN.out
        have ho : w3.ownsRow w.heap.size 118 1 (.slice (some ⟨g', 0, none⟩) (l.length + 1) cap') (l ++ [c]).length (wordCells (l ++ [c])) := by
          rw [wordCells_push]; simpa using HO3.out
        refine ⟨_, rfl, ⟨l ++ [c], HV.out.2.push hc, fun i hi => ?_, ?_, wordsAt_of_row ho⟩, below_push HB.out HR.out HG3.out⟩
        · have : i = l.length := by simp at hi; omega
          subst this
          rw [wgetD_append_last]; exact HC0.out
        · rw [wv_append, wv_single, hln]; exact hval.out

/-- Times a word that is not 0. -/
theorem Times_any (u : Value) (n m k : Nat) (w : World) (h : NatAt w u n) (hm0 : 0 < m) (hm : m < 18446744073709551616) (hk : n < 18446744073709551616 ^ k) (hk6 : k ≤ 1000000) :
    Calls Tryz.prog 111 #[u, .int .u64 m] w fun e w' => ∃ v, e = .returned v ∧ NatAt w' v (n * m) ∧ Below w.heap.size w w' := by
  obtain ⟨x, h1, h2, rfl, h3⟩ := h
  exact Times_words u x m w h1 h2 h3 hm0 hm (by have := wlen_le_of_lt h2 hk; omega)

theorem power_gather {a g q i t : Nat} (h : a * g = t * q ^ i) : a * (g * q) = t * q ^ (i + 1) := by
  rw [← Nat.mul_assoc, h, Nat.pow_succ, Nat.mul_assoc]
theorem power_flush {a g q i t : Nat} (h : a * g = t * q ^ i) : (a * g) * q = t * q ^ (i + 1) := by
  rw [h, Nat.pow_succ, Nat.mul_assoc]

set_option maxRecDepth 10000 in
set_option maxHeartbeats 1000000 in
/-- TimesPower: times a power of a word that is not 0. -/
theorem TimesPower_any (u : Value) (n q e k : Nat) (w : World) (h : NatAt w u n) (hq0 : 0 < q) (hq : q < 18446744073709551616) (he : e ≤ 2000000) (hk : n * q ^ e < 18446744073709551616 ^ k) (hk6 : k ≤ 1000000) :
    Calls Tryz.prog 79 #[u, .int .u64 q, .int .i64 e] w fun r w' => ∃ v, r = .returned v ∧ NatAt w' v (n * q ^ e) ∧ Below w.heap.size w w' := by
  have HA := Hid.mk' h
  have HK := Hid.mk' hk
  clear h hk
  go_enter Tryz.func79, Tryz.ntmps79
  go_wp2_with fail
  go_loopw [0, 7, 11] (fun s t i wr => ∃ (a g j : Nat), i = .int .i64 j ∧ t = .int .u64 g ∧ j ≤ e ∧ 0 < g ∧ g < 18446744073709551616 ∧ Hid (NatAt wr s a) ∧ Hid (a * g = n * q ^ j) ∧ Hid (Below w.heap.size w wr)) (fun _ _ i _ => e - (intOf i).toNat)
  case atStart => exact ⟨n, 1, 0, rfl, rfl, by omega, by omega, by omega, HA, by show _ = _; simp, Below.refl _ _⟩
  case round =>
    clear HA
    obtain ⟨a, g, j, rfl, rfl, hj, hg0, hg, HA, HE, HB⟩ := hrel
    have hab : Hid (a < 18446744073709551616 ^ k) := by
      have h1 : a * 1 ≤ a * g := Nat.mul_le_mul_left _ hg0
      have h2 : n * q ^ j ≤ n * q ^ e := Nat.mul_le_mul_left _ (Nat.pow_le_pow_right hq0 hj)
      have h3 := HE.out
      have h4 := HK.out
      show _ < _
      omega
    by_cases hlt : j < e
    · have hjI : (j : Int) < (e : Int) := by omega
      have hmul := Mul64_any g q wr hg hq
      by_cases hhi : g * q / 18446744073709551616 = 0
      · have hb : ((((g * q / 18446744073709551616 : Nat) : Int)) != 0) = false := by rw [hhi]; rfl
        have hsm : g * q < 18446744073709551616 := by
          rcases Nat.lt_or_ge (g * q) 18446744073709551616 with h | h
          · exact h
          · have := Nat.div_pos h (by decide); omega
        obtain ⟨H, hH⟩ : ∃ H, H = g * q / 18446744073709551616 := ⟨_, rfl⟩
        rw [Nat.mod_eq_of_lt hsm, ← hH] at hmul
        rw [← hH] at hb
        obtain ⟨z, hz⟩ : ∃ z, z = g * q := ⟨_, rfl⟩
        rw [← hz] at hmul
        have HZ := Hid.mk' hz
        have HSM := Hid.mk' hsm
        clear hH hz hsm hhi
        go_wp2_with fail
        refine hmul.mono ?_
        clear hmul
        rintro r w2 ⟨rfl, hw2⟩
        go_wp2_with fail
        refine ⟨⟨a, z, j + 1, by go_num, rfl, by omega, by rw [HZ.out]; exact Nat.mul_pos hg0 hq0, by rw [HZ.out]; exact HSM.out, HA, by show _ = _; rw [HZ.out]; exact power_gather HE.out, HB⟩, by simp [intOf]; omega⟩
      · have hb : ((((g * q / 18446744073709551616 : Nat) : Int)) != 0) = true := by simp only [bne_iff_ne, ne_eq]; omega
        have htm := Times_any u0 a g k wr HA.out hg0 hg hab.out hk6
        obtain ⟨H, hH⟩ : ∃ H, H = g * q / 18446744073709551616 := ⟨_, rfl⟩
        obtain ⟨L, hL⟩ : ∃ L, L = g * q % 18446744073709551616 := ⟨_, rfl⟩
        rw [← hH, ← hL] at hmul
        rw [← hH] at hb
        clear hH hL hhi
        go_wp2_with fail
        refine hmul.mono ?_
        clear hmul
        rintro r w2 ⟨rfl, hw2⟩
        go_wp2_with fail
        refine htm.mono ?_
        clear htm
        rintro r w3 ⟨v, rfl, hv, hb3⟩
        go_wp2_with fail
        refine ⟨⟨a * g, q, j + 1, by go_num, rfl, by omega, hq0, hq, hv, power_flush HE.out, below_chain HB.out hb3⟩, by simp [intOf]; omega⟩
    · obtain rfl : j = e := by omega
      have htm := Times_any u0 a g k wr HA.out hg0 hg hab.out hk6
      go_wp2_with fail
      refine htm.mono ?_
      clear htm
      rintro r w3 ⟨v, rfl, hv, hb3⟩
      go_wp2_with fail
      go_ret
      exact ⟨v, rfl, by rw [← HE.out]; exact hv, below_chain HB.out hb3⟩
end Go.Proofs.YtklhfagcembigaaGreatDoor

/- The program's Cmp of numbers without a bound. -/
namespace Go.Proofs.YtklhfagcembigaaGreatDoor
open Go.RowKit

theorem Compare_int_any (x y : Nat) (w : World) :
    Calls Tryz.prog 91 #[.int .i64 x, .int .i64 y] w fun e w' => e = .returned (.int .i64 (cmpOf x y)) ∧ w' = w := by
  have h0 : ∀ z : Int, (z != z) = false := fun z => by simp
  have hx := h0 x
  have hy := h0 y
  clear h0
  rcases Nat.lt_trichotomy x y with h | h | h
  · rw [cmpOf_lt h]
    have h1 : (x : Int) < (y : Int) := by omega
    go_enter Tryz.func91, Tryz.ntmps91
    go_wp2
    go_ret
    exact ⟨rfl, rfl⟩
  · rw [cmpOf_eq h]
    subst h
    go_enter Tryz.func91, Tryz.ntmps91
    go_wp2
    go_ret
    exact ⟨rfl, rfl⟩
  · rw [cmpOf_gt h]
    have h1 : (y : Int) < (x : Int) := by omega
    go_enter Tryz.func91, Tryz.ntmps91
    go_wp2
    go_ret
    exact ⟨rfl, rfl⟩
theorem Compare_word_any (x y : Nat) (w : World) :
    Calls Tryz.prog 92 #[.int .u64 x, .int .u64 y] w fun e w' => e = .returned (.int .i64 (cmpOf x y)) ∧ w' = w := by
  have h0 : ∀ z : Int, (z != z) = false := fun z => by simp
  have hx := h0 x
  have hy := h0 y
  clear h0
  rcases Nat.lt_trichotomy x y with h | h | h
  · rw [cmpOf_lt h]
    have h1 : (x : Int) < (y : Int) := by omega
    go_enter Tryz.func92, Tryz.ntmps92
    go_wp2
    go_ret
    exact ⟨rfl, rfl⟩
  · rw [cmpOf_eq h]
    subst h
    go_enter Tryz.func92, Tryz.ntmps92
    go_wp2
    go_ret
    exact ⟨rfl, rfl⟩
  · rw [cmpOf_gt h]
    have h1 : (y : Int) < (x : Int) := by omega
    go_enter Tryz.func92, Tryz.ntmps92
    go_wp2
    go_ret
    exact ⟨rfl, rfl⟩

theorem NatCmp_len (a1 a2 : Option Addr) (n1 n2 c1 c2 : Nat) (w : World) (h : n1 ≠ n2) :
    Calls Tryz.prog 72 #[.slice a1 n1 c1, .slice a2 n2 c2] w fun e w' => e = .returned (.int .i64 (cmpOf n1 n2)) ∧ w' = w := by
  have h1 : ((n1 : Int) != (n2 : Int)) = true := by simp; omega
  have hc := Compare_int_any n1 n2 w
  clear h
  go_enter Tryz.func72, Tryz.ntmps72
  go_wp2_with fail
  refine hc.mono ?_
  rintro e w1 ⟨rfl, hw⟩
  go_wp2_with fail
  go_ret
  exact ⟨rfl, rfl⟩
theorem NatCmp_zero (a1 a2 : Option Addr) (c1 c2 : Nat) (w : World) :
    Calls Tryz.prog 72 #[.slice a1 0 c1, .slice a2 0 c2] w fun e w' => e = .returned (.int .i64 0) ∧ w' = w := by
  go_enter Tryz.func72, Tryz.ntmps72
  go_wp2_with fail
  refine wp_loop_rounds 1 ?_
  rw [rounds_succ]
  go_wp2_with fail
  go_ret
  exact ⟨rfl, rfl⟩

set_option maxRecDepth 10000 in
set_option maxHeartbeats 1000000 in
theorem NatCmp_same (b1 o1 c1 b2 o2 c2 : Nat) (x y : List Nat) (w : World) (hx : Wrd x) (hy : Wrd y) (hl : x.length = y.length) (hn : x.length ≤ 1000000)
    (h1 : ∀ i, i < x.length → w.cell? ⟨b1, o1 + i, none⟩ = some (.int .u64 ((x.getD i 0 : Nat) : Int))) (h2 : ∀ i, i < x.length → w.cell? ⟨b2, o2 + i, none⟩ = some (.int .u64 ((y.getD i 0 : Nat) : Int))) :
    Calls Tryz.prog 72 #[.slice (some ⟨b1, o1, none⟩) x.length c1, .slice (some ⟨b2, o2, none⟩) x.length c2] w fun e w' => e = .returned (.int .i64 (cmpOf (wv x) (wv y))) ∧ ∃ m, w' = w.drewN m := by
  have H1 := Hid.mk' h1
  have H2 := Hid.mk' h2
  have HX := Hid.mk' hx
  have HY := Hid.mk' hy
  have HL := Hid.mk' hl
  clear h1 h2 hx hy hl
  go_enter Tryz.func72, Tryz.ntmps72
  go_wp2_with fail
  go_loopw [5] (fun t wr => ∃ k m : Nat, k ≤ x.length ∧ t = .int .i64 ((k : Int) - 1) ∧ Hid (∀ i, k ≤ i → i < x.length → x.getD i 0 = y.getD i 0) ∧ wr = w.drewN m) (fun t _ => (intOf t + 1).toNat)
  case atStart => exact ⟨x.length, 0, Nat.le_refl _, rfl, fun i h1 h2 => by omega, rfl⟩
  case round =>
    obtain ⟨k, m, hk, rfl, HE, rfl⟩ := hrel
    rcases Nat.eq_zero_or_pos k with rfl | hpos
    · have he : x = y := wlist_ext_getD HL.out (fun i hi => HE.out i (by omega) hi)
      go_wp2_with fail
      go_ret
      exact ⟨ret_int (cmpOf_eq (by rw [he])).symm, m, rfl⟩
    · obtain ⟨j, rfl⟩ : ∃ j, k = j + 1 := ⟨k - 1, by omega⟩
      have y1 := H1.out j (by omega)
      have y2 := H2.out j (by omega)
      have i0 : (0 : Int) ≤ (j : Int) := by omega
      have i1 : (j : Int) < (x.length : Int) := by omega
      obtain ⟨d, hd⟩ : ∃ d : Nat, d = x.getD j 0 := ⟨_, rfl⟩
      obtain ⟨f, hf⟩ : ∃ f : Nat, f = y.getD j 0 := ⟨_, rfl⟩
      rw [← hd] at y1
      rw [← hf] at y2
      have HD := Hid.mk' hd
      have HF := Hid.mk' hf
      clear hd hf
      have hjj : ((j + 1 : Nat) : Int) - 1 = (j : Int) := by omega
      rw [hjj]
      clear hjj
      by_cases heq : d = f
      · subst heq
        have hb : ((d : Int) != (d : Int)) = false := by simp
        have HE' : Hid (∀ i, j ≤ i → i < x.length → x.getD i 0 = y.getD i 0) := fun i h1 h2 => by
          rcases Nat.lt_or_ge j i with h' | h'
          · exact HE.out i (by omega) h2
          · obtain rfl : i = j := by omega
            rw [← HD.out, ← HF.out]
        clear HE
        go_wp2_with fail
        go_quiet (fail)
        go_wp2_with fail
        exact ⟨⟨j, _, by omega, rfl, HE', rfl⟩, by simp [intOf]⟩
      · have hb : ((d : Int) != (f : Int)) = true := by simp; omega
        have hres : Hid (cmpOf d f = cmpOf (wv x) (wv y)) := by
          rcases Nat.lt_or_ge d f with hlt | hge
          · show _ = _
            rw [cmpOf_lt hlt, cmpOf_lt (wv_lt_of_place HX.out j (by omega) HL.out (fun i h1 h2 => HE.out i (by omega) h2) (by rw [← HD.out, ← HF.out]; exact hlt))]
          · have hgt : f < d := by omega
            show _ = _
            rw [cmpOf_gt hgt, cmpOf_gt (wv_lt_of_place HY.out j (by have := HL.out; omega) HL.out.symm (fun i h1 h2 => (HE.out i (by omega) (by have := HL.out; omega)).symm) (by rw [← HD.out, ← HF.out]; exact hgt))]
        clear heq HE
        go_wp2_with fail
        go_quiet (fail)
        go_wp2_with fail
        go_quiet (exact (Compare_word_any d f _).mono fun _ _ h => ⟨h.1, _, h.2⟩)
        go_wp2_with fail
        go_ret
        refine ⟨ret_int hres.out, ?_⟩
        simp only [World.drewN_drewN]
        exact ⟨_, rfl⟩

/-- Cmp of any two that are not of a million words. -/
theorem NatCmp_any (u v : Value) (a b k : Nat) (w : World) (ha : NatAt w u a) (hb : NatAt w v b) (hka : a < 18446744073709551616 ^ k) (hkb : b < 18446744073709551616 ^ k) (hk : k ≤ 1000000) :
    Calls Tryz.prog 72 #[u, v] w fun e w' => e = .returned (.int .i64 (cmpOf a b)) ∧ ∃ m, w' = w.drewN m := by
  obtain ⟨x, hx1, hx2, rfl, hx⟩ := ha
  obtain ⟨y, hy1, hy2, rfl, hy⟩ := hb
  have lx := wlen_le_of_lt hx2 hka
  have ly := wlen_le_of_lt hy2 hkb
  by_cases h : x.length = y.length
  · rcases hx with ⟨ad, cap, rfl, rfl⟩ | ⟨b1, o1, c1, rfl, h1, h2, h3⟩
    · obtain ⟨ad', cap', rfl⟩ := hy.form
      have hy0 : y = [] := List.eq_nil_of_length_eq_zero h.symm
      subst hy0
      exact (NatCmp_zero ad ad' cap cap' w).mono fun e w' ⟨he, hw⟩ => ⟨by rw [he, cmpOf_eq rfl], 0, hw⟩
    · rcases hy with ⟨ad', cap', rfl, rfl⟩ | ⟨b2, o2, c2, rfl, h4, h5, h6⟩
      · exact absurd h (by simp; intro h0; rw [h0] at h2; simp at h2)
      · have := NatCmp_same b1 o1 c1 b2 o2 c2 x y w hx1 hy1 h (by omega) h3 (fun i hi => h6 i (by omega))
        rw [← h]
        exact this
  · obtain ⟨ad, cap, rfl⟩ := hx.form
    obtain ⟨ad', cap', rfl⟩ := hy.form
    refine (NatCmp_len ad ad' _ _ cap cap' w h).mono fun e w' ⟨he, hw⟩ => ⟨?_, 0, hw⟩
    rw [he]
    rcases Nat.lt_or_ge x.length y.length with h' | h'
    · rw [cmpOf_lt h', cmpOf_lt (wv_lt_of_len hx1 hy2 h')]
    · have h'' : y.length < x.length := by omega
      rw [cmpOf_gt h'', cmpOf_gt (wv_lt_of_len hy1 hx2 h'')]
end Go.Proofs.YtklhfagcembigaaGreatDoor

/- The document's SignOf. -/
namespace Go.Proofs.YtklhfagcembigaaGreatDoor
open Go.RowKit

theorem pow_room (m : Nat) : 2 ^ m < 1000000 ^ (m + 1) :=
  Nat.lt_of_le_of_lt (Nat.pow_le_pow_left (show 2 ≤ 1000000 by decide) m) (Nat.pow_lt_pow_right (by decide) (Nat.lt_succ_self m))

end Go.Proofs.YtklhfagcembigaaGreatDoor

/- logs.checkPowers and powers: the powers that are compared, in the program's numbers without a bound. -/
namespace Go.Proofs.YtklhfagcembigaaGreatDoor
open Go.RowKit

def powErr : Bool → Bool → (Nat → Addr) → Value
  | false, _, a => .iface 183 (.pointer (some (a 2)))
  | true, false, a => .iface 183 (.pointer (some (a 1)))
  | true, true, _ => .nilIface
def powCode : Bool → Bool → Int
  | false, _ => 3
  | true, false => 2
  | true, true => 0

theorem cost_le {n : Nat} {p c : Nat → Int} (hb : Bounded n p c) : ∀ k, k ≤ n → cost p c k ≤ k * 21990232555520
  | 0, _ => by simp [cost]
  | k + 1, h => by
    have ih := cost_le hb k (by omega)
    obtain ⟨h1, h2, h3, h4, _⟩ := hb k (by omega)
    have hm := Nat.mul_le_mul (show (c k).natAbs ≤ 1099511627776 by omega) (bitLen_million (n := (p k).toNat) (by omega))
    have e : cost p c (k + 1) = cost p c k + (c k).natAbs * bitLen (p k).toNat := rfl
    omega

theorem log_of_own {w : World} {sv : Value} {n : Nat} {p c : Nat → Int} (h : (sv = .slice none 0 0 ∧ n = 0) ∨ ∃ g cap, sv = .slice (some ⟨g, 0, none⟩) n cap ∧ TermsAt w g 0 n p c) : ∃ ad cap, sv = .slice ad n cap ∧ LogAt w (.slice ad n cap) n p c := by
  rcases h with ⟨rfl, rfl⟩ | ⟨g, cap, rfl, ht⟩
  · exact ⟨none, 0, rfl, Or.inl ⟨none, 0, rfl, rfl⟩⟩
  · rcases Nat.eq_zero_or_pos n with rfl | hp
    · exact ⟨_, cap, rfl, Or.inl ⟨_, cap, rfl, rfl⟩⟩
    · exact ⟨_, cap, rfl, Or.inr ⟨g, 0, cap, rfl, hp, ht⟩⟩

theorem checkPowers_bad (den : Int) (sv : Value) (n most : Nat) (p c : Nat → Int) (a : Nat → Addr) (hok : ¬ OkLog den n p c) (w : World) (h : Errs w a) (hs : LogAt w sv n p c) (hn : n ≤ 100000) :
    Calls Tryz.prog 46 #[.agg #[.int .i64 den, sv], .int .i64 most] w fun e w' => e = .returned (.iface 183 (.pointer (some (a 2)))) ∧ Below w.heap.size w w' := by
  have hb0 : Below w.heap.size w (w.alloc (.cells #[.int .i64 den, sv] 27)) := (Below.refl _ _).alloc (Nat.le_refl _) _
  have hv := Valid_log den sv n p c a false ⟨(fun e => by cases e), (fun e => absurd e hok)⟩ (w.alloc (.cells #[.int .i64 den, sv] 27)) (h.below hb0) (hs.later hb0) (by omega)
  simp only [shapeErr] at hv
  have HB0 := Hid.mk' hb0
  clear hb0 h hs hok
  go_enter Tryz.func46, Tryz.ntmps46
  go_wp2_with fail
  refine hv.mono ?_
  clear hv
  rintro e w1 ⟨rfl, hb1⟩
  go_wp2_with fail
  go_ret
  exact ⟨rfl, below_chain HB0.out hb1⟩

set_option maxRecDepth 10000 in
set_option maxHeartbeats 1000000 in
theorem checkPowers_ok (den : Int) (sv : Value) (n most : Nat) (p c : Nat → Int) (a : Nat → Addr) (hok : OkLog den n p c) (fit : Bool) (hfit : fit = true ↔ cost p c n ≤ most) (w : World) (h : Errs w a) (hs : LogAt w sv n p c) (hn : n ≤ 100000) :
    Calls Tryz.prog 46 #[.agg #[.int .i64 den, sv], .int .i64 most] w fun e w' => e = .returned (powErr true fit a) ∧ Below w.heap.size w w' := by
  have hb0 : Below w.heap.size w (w.alloc (.cells #[.int .i64 den, sv] 27)) := (Below.refl _ _).alloc (Nat.le_refl _) _
  have hv := Valid_log den sv n p c a true ⟨fun _ => hok, fun _ => rfl⟩ (w.alloc (.cells #[.int .i64 den, sv] 27)) (h.below hb0) (hs.later hb0) (by omega)
  simp only [shapeErr] at hv
  obtain ⟨ad, cap, rfl⟩ := hs.slice
  have hl := hs
  have HB0 := Hid.mk' hb0
  have HL := Hid.mk' hl
  have HE := Hid.mk' h
  have HBD := Hid.mk' hok.2.2.1.bounded
  have HF := Hid.mk' hfit
  clear hb0 h hs hok hl hfit
  go_enter Tryz.func46, Tryz.ntmps46
  go_wp2_with fail
  refine hv.mono ?_
  clear hv
  rintro e w1 ⟨rfl, hb1⟩
  have hc1 := hb1.cell (p := ⟨w.heap.size, 1, none⟩) (by simp)
  simp at hc1
  have HB1 := Hid.mk' (below_chain HB0.out hb1)
  clear hb1 HB0
  go_wp2_with fail
  go_loopw [6, 17] (fun s i wr => ∃ k : Nat, k ≤ n ∧ s = .int .i64 (cost p c k : Nat) ∧ i = .int .i64 k ∧ Hid (Below w.heap.size w wr)) (fun _ i _ => n - (intOf i).toNat)
  case atStart => exact ⟨0, Nat.zero_le _, rfl, rfl, HB1⟩
  case round =>
    clear HB1 hc1
    obtain ⟨k, hk, rfl, rfl, HW⟩ := hrel
    have hw := HW.out.size
    have hcl := cost_le HBD.out k hk
    have hcl' : cost p c k ≤ 2199023255552000000 := by omega
    by_cases hlt : k < n
    · obtain ⟨b, o, rfl, hc0, hc1⟩ := (HL.out.later HW.out).cellsAt hlt
      have hkI : (k : Int) < (n : Int) := by omega
      have hk0 : (0 : Int) ≤ (k : Int) := by omega
      obtain ⟨hp2, hp6, hlo, hhi, _⟩ := HBD.out k hlt
      obtain ⟨q, hq⟩ := Int.eq_ofNat_of_zero_le (show 0 ≤ p k by omega)
      have HCS : Hid (cost p c (k + 1) = cost p c k + (c k).natAbs * bitLen q) := by
        show cost p c k + _ = _
        rw [hq]; simp
      rw [hq] at hc0
      have hq6 : q ≤ 1000000 := by omega
      have hb20 := bitLen_million hq6
      have hsz := fun W => size_any (c k) W (by omega) (by omega)
      have hlen := fun W => Len_any q W (by omega)
      obtain ⟨M, hM⟩ : ∃ M, (c k).natAbs = M := ⟨_, rfl⟩
      have hM40 : M ≤ 1099511627776 := by omega
      obtain ⟨B, hB⟩ : ∃ B, bitLen q = B := ⟨_, rfl⟩
      rw [hM, hB] at HCS
      rw [hB] at hlen hb20
      rw [hM] at hsz
      clear hB hM hq hp2 hp6
      have hpr : M * B ≤ 21990232555520 := Nat.le_trans (Nat.mul_le_mul hM40 hb20) (by decide)
      have hpi : (0 : Int) ≤ (M : Int) * (B : Int) ∧ (M : Int) * (B : Int) ≤ 21990232555520 := by
        rw [show (M : Int) * (B : Int) = ((M * B : Nat) : Int) by simp]
        omega
      have HB1 := Hid.mk' (HW.out.alloc hw (.cells #[.int .i64 q, .int .i64 (c k)] 90))
      go_wp2_with fail
      go_quiet ((first | (go_at_call 77; exact (hsz _).mono fun _ _ h => ⟨h.1, _, h.2⟩) | (go_at_call 76; exact (hlen _).mono fun _ _ h => ⟨h.1, _, h.2⟩)))
      go_wp2_with fail
      exact ⟨⟨k + 1, by omega, by rw [HCS.out]; simp, by go_num, below_drewN HB1.out _⟩, by simp [intOf]; omega⟩
    · obtain rfl : k = n := by omega
      have he := (HE.out.below HW.out).c1
      cases fit
      · have hmore : ¬ cost p c k ≤ most := fun h => by have := HF.out.2 h; cases this
        go_wp2_with fail
        go_ret
        exact ⟨rfl, HW.out⟩
      · have hless : cost p c k ≤ most := HF.out.1 rfl
        go_wp2_with fail
        go_ret
        exact ⟨rfl, HW.out⟩

theorem wpow_room (m : Nat) : 2 ^ m < 18446744073709551616 ^ (m + 1) :=
  Nat.lt_of_le_of_lt (Nat.pow_le_pow_left (show 2 ≤ 18446744073709551616 by decide) m) (Nat.pow_lt_pow_right (by decide) (Nat.lt_succ_self m))

theorem sides_lt {p c : Nat → Int} {t k n K : Nat} (hk : k ≤ n) (h : 2 ^ (t * cost p c n) < 18446744073709551616 ^ K) : sideUp p c t k < 18446744073709551616 ^ K ∧ sideDown p c t k < 18446744073709551616 ^ K := by
  have h1 := sides_le p c t k
  have h2 : 2 ^ (t * cost p c k) ≤ 2 ^ (t * cost p c n) := Nat.pow_le_pow_right (by decide) (Nat.mul_le_mul_left _ (cost_mono p c hk))
  exact ⟨Nat.lt_of_le_of_lt (Nat.le_trans h1.1 h2) h, Nat.lt_of_le_of_lt (Nat.le_trans h1.2 h2) h⟩

set_option maxRecDepth 10000 in
set_option maxHeartbeats 1000000 in
theorem powers_any (den : Int) (ad : Option Addr) (n cap t K : Nat) (p c : Nat → Int) (w : World) (hl : LogAt w (.slice ad n cap) n p c) (hn : n ≤ 100000) (hbd : Bounded n p c) (hcost : t * cost p c n ≤ 40000) (hK : K ≤ 1000000) (hKb : 2 ^ (t * cost p c n) < 18446744073709551616 ^ K) :
    Calls Tryz.prog 47 #[.agg #[.int .i64 den, .slice ad n cap], .int .i64 t] w fun e w' => ∃ u v, e = .returned (.tuple #[u, v]) ∧ NatAt w' u (sideUp p c t n) ∧ NatAt w' v (sideDown p c t n) ∧ Below w.heap.size w w' := by
  have hb0 : Below w.heap.size w (w.alloc (.cells #[.int .i64 den, .slice ad n cap] 27)) := (Below.refl _ _).alloc (Nat.le_refl _) _
  have hc1 : (w.alloc (.cells #[.int .i64 den, .slice ad n cap] 27)).cell? ⟨w.heap.size, 1, none⟩ = some (.slice ad n cap) := by simp
  have HL := Hid.mk' (hl.later hb0)
  have HBD := Hid.mk' hbd
  have HKB := Hid.mk' hKb
  have HC1 := Hid.mk' hc1
  have HB0 := Hid.mk' hb0
  have hsz : ∀ i, i < n → (c i).natAbs * t ≤ 40000 := fun i hi => by
    have h1 := Nat.mul_le_mul_left t (size_le_cost hi hbd)
    rw [Nat.mul_comm t (c i).natAbs] at h1
    omega
  have HSZ := Hid.mk' hsz
  clear hl hbd hKb hsz hc1 hb0 hcost
  have hone := NatOf_any 1 (w.alloc (.cells #[.int .i64 den, .slice ad n cap] 27)) (by omega) (by omega)
  generalize hw0 : w.alloc (.cells #[.int .i64 den, .slice ad n cap] 27) = w0 at HL HC1 HB0 hone
  have HW0 := Hid.mk' hw0
  clear hw0
  go_enter Tryz.func47, Tryz.ntmps47
  go_wp2_with fail
  rw [HW0.out]
  refine hone.mono ?_
  clear hone
  rintro e w1 ⟨v1, rfl, hv1, hb1⟩
  have hone := NatOf_any 1 w1 (by omega) (by omega)
  have HV1 := Hid.mk' hv1
  have HB1 := Hid.mk' hb1
  clear hv1 hb1
  go_wp2_with fail
  refine hone.mono ?_
  clear hone
  rintro e w2 ⟨v2, rfl, hv2, hb2⟩
  have HB2 := Hid.mk' (below_chain HB1.out hb2)
  have HV2 := Hid.mk' hv2
  have HV1' := Hid.mk' (HV1.out.later hb2)
  have hcl := HB2.out.cell (cell_lt HC1.out)
  rw [HC1.out] at hcl
  clear hv2 hb2 HV1 HB1
  go_wp2_with fail
  go_loopw [4, 5, 14] (fun s r i wr => ∃ k : Nat, k ≤ n ∧ i = .int .i64 k ∧ Hid (NatAt wr s (sideUp p c t k)) ∧ Hid (NatAt wr r (sideDown p c t k)) ∧ Hid (Below w0.heap.size w0 wr)) (fun _ _ i _ => n - (intOf i).toNat)
  case atStart => exact ⟨0, by omega, rfl, HV1', HV2, HB2⟩
  case round =>
    clear HV1' HV2 HB2 hcl
    obtain ⟨k, hk, rfl, HU, HD, HB⟩ := hrel
    have hk0 : (0 : Int) ≤ (k : Int) := by omega
    by_cases hlt : k < n
    · obtain ⟨b, o, rfl, hc0, hc1⟩ := (HL.out.later HB.out).cellsAt hlt
      have hkI : (k : Int) < (n : Int) := by omega
      obtain ⟨hp2, hp6, hlo, hhi, hcz⟩ := HBD.out k hlt
      have hs := HSZ.out k hlt
      obtain ⟨q, hq⟩ := Int.eq_ofNat_of_zero_le (show 0 ≤ p k by omega)
      have hqt : (p k).toNat = q := by omega
      have hsl := sides_lt (t := t) (show k + 1 ≤ n by omega) HKB.out
      have HQT := Hid.mk' hqt
      rw [hq] at hc0
      have hq2 : 2 ≤ q := by omega
      have hq6 : q ≤ 1000000 := by omega
      have hbx : Below wr.heap.size wr (wr.alloc (.cells #[.int .i64 q, .int .i64 (c k)] 90)) := (Below.refl _ _).alloc (Nat.le_refl _) _
      clear hq hp2 hp6
      by_cases hpos : 0 < c k
      · rw [sideUp_pos hpos, hqt] at hsl
        have hpow := TimesPower_any u4 (sideUp p c t k) q ((c k).natAbs * t) K (wr.alloc (.cells #[.int .i64 q, .int .i64 (c k)] 90)) (HU.out.later hbx) (by omega) (by omega) (by omega) hsl.1 hK
        have hcc : (((c k).natAbs * t : Nat) : Int) = c k * (t : Int) := by
          rw [Int.natCast_mul, show ((c k).natAbs : Int) = c k by omega]
        rw [hcc] at hpow
        have hpb : (0 : Int) ≤ c k * (t : Int) ∧ c k * (t : Int) ≤ 40000 := by rw [← hcc]; omega
        have HBX := Hid.mk' (below_chain HB.out hbx)
        have HDX := Hid.mk' (HD.out.later hbx)
        clear hsl hcc hqt hbx hs
        go_wp2_with fail
        refine hpow.mono ?_
        clear hpow
        rintro e w3 ⟨v3, rfl, hv3, hb3⟩
        go_wp2_with fail
        exact ⟨⟨k + 1, by omega, by go_num, by show NatAt _ _ _; rw [sideUp_pos hpos, HQT.out]; exact hv3, by show NatAt _ _ _; rw [sideDown_pos hpos]; exact HDX.out.later hb3, below_chain HBX.out hb3⟩, by simp [intOf]; omega⟩
      · rw [sideDown_neg hpos, hqt] at hsl
        have hpow := TimesPower_any u5 (sideDown p c t k) q ((c k).natAbs * t) K (wr.alloc (.cells #[.int .i64 q, .int .i64 (c k)] 90)) (HD.out.later hbx) (by omega) (by omega) (by omega) hsl.2 hK
        have hcc : (((c k).natAbs * t : Nat) : Int) = -c k * (t : Int) := by
          rw [Int.natCast_mul, show ((c k).natAbs : Int) = -c k by omega]
        rw [hcc] at hpow
        have hpb : (0 : Int) ≤ -c k * (t : Int) ∧ -c k * (t : Int) ≤ 40000 := by rw [← hcc]; omega
        have HBX := Hid.mk' (below_chain HB.out hbx)
        have HUX := Hid.mk' (HU.out.later hbx)
        clear hsl hcc hqt hbx hs
        go_wp2_with fail
        refine hpow.mono ?_
        clear hpow
        rintro e w3 ⟨v3, rfl, hv3, hb3⟩
        go_wp2_with fail
        exact ⟨⟨k + 1, by omega, by go_num, by show NatAt _ _ _; rw [sideUp_neg (Int.not_lt.2 (by omega))]; exact HUX.out.later hb3, by show NatAt _ _ _; rw [sideDown_neg (Int.not_lt.2 (by omega)), HQT.out]; exact hv3, below_chain HBX.out hb3⟩, by simp [intOf]; omega⟩
    · obtain rfl : k = n := by omega
      go_wp2_with fail
      go_ret2
      exact ⟨u4, u5, rfl, HU.out, HD.out, below_chain HB0.out HB.out⟩

set_option maxRecDepth 10000 in
set_option maxHeartbeats 1000000 in
/-- Sign: an error, or how the two products compare. -/
theorem Sign_log (den : Int) (sv : Value) (n : Nat) (p c : Nat → Int) (a : Nat → Addr) (ok fit : Bool) (hok : ok = true ↔ OkLog den n p c) (hfit : fit = true ↔ cost p c n ≤ 40000) (w : World) (h : Errs w a) (hs : LogAt w sv n p c) (hn : n ≤ 100000) :
    Calls Tryz.prog 41 #[.agg #[.int .i64 den, sv]] w fun e w' => e = .returned (.tuple #[.int .i64 (if ok && fit then cmpOf (sideUp p c 1 n) (sideDown p c 1 n) else 0), powErr ok fit a]) ∧ Below w.heap.size w w' := by
  have hb0 : Below w.heap.size w (w.alloc (.cells #[.int .i64 den, sv] 27)) := (Below.refl _ _).alloc (Nat.le_refl _) _
  have HB0 := Hid.mk' hb0
  by_cases h1 : OkLog den n p c
  · obtain rfl : ok = true := hok.2 h1
    have hck := checkPowers_ok den sv n 40000 p c a h1 fit hfit (w.alloc (.cells #[.int .i64 den, sv] 27)) (h.below hb0) (hs.later hb0) (by omega)
    obtain ⟨ad, cap, rfl⟩ := hs.slice
    have hl := hs
    have HL := Hid.mk' hl
    have HBD := Hid.mk' h1.2.2.1.bounded
    have HF := Hid.mk' hfit
    clear hok h h1 hs hl hfit hb0
    cases fit
    · simp only [powErr] at hck
      simp only [powErr, Bool.and_false]
      go_enter Tryz.func41, Tryz.ntmps41
      go_wp2_with fail
      refine hck.mono ?_
      clear hck
      rintro e w1 ⟨rfl, hb1⟩
      go_wp2_with fail
      go_ret2
      exact ⟨rfl, below_chain HB0.out hb1⟩
    · simp only [powErr] at hck
      simp only [powErr, Bool.and_true]
      have hcost := HF.out.1 rfl
      obtain ⟨K, hK, hKb⟩ : ∃ K, K ≤ 1000000 ∧ 2 ^ (1 * cost p c n) < 18446744073709551616 ^ K := ⟨1 * cost p c n + 1, by omega, wpow_room _⟩
      have hsl := sides_lt (t := 1) (Nat.le_refl n) hKb
      have HSL := Hid.mk' hsl
      have HKB := Hid.mk' hKb
      clear hsl hKb
      go_enter Tryz.func41, Tryz.ntmps41
      go_wp2_with fail
      refine hck.mono ?_
      clear hck
      rintro e w1 ⟨rfl, hb1⟩
      have hc0 := hb1.cell (p := ⟨w.heap.size, 0, none⟩) (by simp)
      have hc1 := hb1.cell (p := ⟨w.heap.size, 1, none⟩) (by simp)
      simp at hc0 hc1
      have HB1 := Hid.mk' (below_chain HB0.out hb1)
      have hpw := powers_any den ad n cap 1 K p c w1 (HL.out.later HB1.out) hn HBD.out (by omega) hK HKB.out
      clear hb1 HB0
      go_wp2_with fail
      refine hpw.mono ?_
      clear hpw hc0 hc1
      rintro e w2 ⟨u, v, rfl, hu, hv, hb2⟩
      have hcmp := NatCmp_any u v _ _ K w2 hu hv HSL.out.1 HSL.out.2 hK
      have HB2 := Hid.mk' (below_chain HB1.out hb2)
      clear hu hv hb2 HB1
      go_wp2_with fail
      refine hcmp.mono ?_
      clear hcmp
      rintro e w3 ⟨rfl, m, hw3⟩
      go_wp2_with fail
      go_ret2
      exact ⟨by simp, below_drewN HB2.out _⟩
  · obtain rfl : ok = false := not_true_of hok h1
    have hck := checkPowers_bad den sv n 40000 p c a h1 (w.alloc (.cells #[.int .i64 den, sv] 27)) (h.below hb0) (hs.later hb0) (by omega)
    simp only [powErr, Bool.false_and]
    clear hok h h1 hs hfit hb0
    go_enter Tryz.func41, Tryz.ntmps41
    go_wp2_with fail
    refine hck.mono ?_
    clear hck
    rintro e w1 ⟨rfl, hb1⟩
    go_wp2_with fail
    go_ret2
    exact ⟨rfl, below_chain HB0.out hb1⟩
/-- Sign of a copy. -/
theorem Sign_any (den : Int) (sv : Value) (n : Nat) (p c : Nat → Int) (a : Nat → Addr) (ok fit : Bool) (hok : ok = true ↔ OkLog den n p c) (hfit : fit = true ↔ cost p c n ≤ 40000) (w : World) (h : Errs w a) (hs : (sv = .slice none 0 0 ∧ n = 0) ∨ ∃ g cap, sv = .slice (some ⟨g, 0, none⟩) n cap ∧ TermsAt w g 0 n p c) (hn : n ≤ 30) :
    Calls Tryz.prog 41 #[.agg #[.int .i64 den, sv]] w fun e w' => e = .returned (.tuple #[.int .i64 (if ok && fit then cmpOf (sideUp p c 1 n) (sideDown p c 1 n) else 0), powErr ok fit a]) ∧ Below w.heap.size w w' := by
  obtain ⟨ad, cap, rfl, hl⟩ := log_of_own hs
  exact Sign_log den _ n p c a ok fit hok hfit w h hl (by omega)
end Go.Proofs.YtklhfagcembigaaGreatDoor

/- 2 to a power against a quotient: plain numbers. -/
namespace Go.Proofs.YtklhfagcembigaaGreatDoor

/-- 2 to the power of k is at most a over b. -/
def le2 (k : Int) (a b : Nat) : Prop := b * 2 ^ k.toNat ≤ a * 2 ^ (-k).toNat
theorem le2_iff {k : Int} {a b x y : Nat} (h : (x : Int) - (y : Int) = k) : le2 k a b ↔ b * 2 ^ x ≤ a * 2 ^ y := by
  obtain ⟨s, hx, hy⟩ : ∃ s, x = k.toNat + s ∧ y = (-k).toNat + s := ⟨x - k.toNat, by omega, by omega⟩
  clear h
  subst hx hy
  unfold le2
  rw [Nat.pow_add, Nat.pow_add, ← Nat.mul_assoc, ← Nat.mul_assoc]
  exact ⟨fun h => Nat.mul_le_mul_right _ h, fun h => Nat.le_of_mul_le_mul_right h (Nat.two_pow_pos s)⟩
theorem le2_anti {j k : Int} {a b : Nat} (h : le2 k a b) (hj : j ≤ k) : le2 j a b := by
  rw [le2_iff (x := k.toNat) (y := (-k).toNat + (k - j).toNat) (by omega)]
  unfold le2 at h
  rw [Nat.pow_add, ← Nat.mul_assoc]
  exact Nat.le_trans h (Nat.le_mul_of_pos_right _ (Nat.two_pow_pos _))
theorem le2_low {a b : Nat} (ha : 0 < a) : le2 ((bitLen a : Int) - (bitLen b : Int) - 1) a b := by
  have h0 := bitLen_pos ha
  rw [le2_iff (x := bitLen a - 1) (y := bitLen b) (by omega), Nat.mul_comm a]
  exact Nat.mul_le_mul (Nat.le_of_lt (bitLen_spec b).1) ((bitLen_spec a).2 (by omega))
theorem le2_high {a b : Nat} (hb : 0 < b) : ¬ le2 ((bitLen a : Int) - (bitLen b : Int) + 1) a b := by
  have h0 := bitLen_pos hb
  rw [le2_iff (x := bitLen a) (y := bitLen b - 1) (by omega)]
  have h1 := (bitLen_spec a).1
  have h2 := (bitLen_spec b).2 (by omega)
  have h3 : a * 2 ^ (bitLen b - 1) < 2 ^ bitLen a * 2 ^ (bitLen b - 1) := Nat.mul_lt_mul_of_pos_right h1 (Nat.two_pow_pos _)
  have h4 : 2 ^ bitLen a * 2 ^ (bitLen b - 1) ≤ b * 2 ^ bitLen a := by rw [Nat.mul_comm]; exact Nat.mul_le_mul_right _ h2
  omega
/-- The greatest one. -/
def IsLog (k : Int) (a b : Nat) : Prop := le2 k a b ∧ ¬ le2 (k + 1) a b
theorem isLog_of {a b : Nat} (hb : 0 < b) (h : le2 ((bitLen a : Int) - (bitLen b : Int)) a b) : IsLog ((bitLen a : Int) - (bitLen b : Int)) a b := ⟨h, le2_high hb⟩
theorem isLog_less {a b : Nat} (ha : 0 < a) (h : ¬ le2 ((bitLen a : Int) - (bitLen b : Int)) a b) : IsLog ((bitLen a : Int) - (bitLen b : Int) - 1) a b := ⟨le2_low ha, by rw [show (bitLen a : Int) - (bitLen b : Int) - 1 + 1 = (bitLen a : Int) - (bitLen b : Int) by omega]; exact h⟩
/-- Rounded down behind a division. -/
theorem isLog_floor {k g : Int} {a b : Nat} {d : Int} (hd : 0 < d) (h : IsLog k a b) (hg : g = k / d) : le2 (g * d) a b ∧ ¬ le2 ((g + 1) * d) a b := by
  subst hg
  have h1 : k / d * d ≤ k := Int.ediv_mul_le k (by omega)
  have h2 : k < (k / d + 1) * d := Int.lt_ediv_add_one_mul_self k hd
  exact ⟨le2_anti h.1 h1, fun h' => h.2 (le2_anti h' (by omega))⟩
theorem bitLen_le_of_lt {n m : Nat} (h : n < 2 ^ m) : bitLen n ≤ m := by
  unfold bitLen
  split
  · omega
  · rename_i h0
    have := (Nat.log2_lt h0).2 h
    omega

theorem word_pow (k : Nat) : 18446744073709551616 ^ k = 2 ^ (64 * k) := by
  rw [show 18446744073709551616 = 2 ^ 64 by decide, ← Nat.pow_mul]
/-- The bits of a number, by its last word. -/
theorem bits_words {l : List Nat} (hw : Wrd l) (hn : NoEnd l) {m : Nat} (hl : l.length = m + 1) : bitLen (wv l) = 64 * m + bitLen (l.getD m 0) := by
  have h1 := wv_take_succ l m (by omega)
  rw [show l.take (m + 1) = l by rw [← hl, List.take_length]] at h1
  have h2 := wv_lt _ (hw.take m)
  rw [List.length_take, Nat.min_eq_left (by omega)] at h2
  have h3 : wv l / 2 ^ (64 * m) = l.getD m 0 := by
    rw [← word_pow, h1, Nat.add_mul_div_left _ _ (Nat.pow_pos (by decide)), Nat.div_eq_of_lt h2, Nat.zero_add]
  have h4 := bitLen_shift (wv l) (64 * m) (by rw [h3]; exact hn m (by omega))
  rw [h3] at h4
  exact h4
theorem wv_zeros_then (m : Nat) (l : List Nat) : wv (List.replicate m 0 ++ l) = 18446744073709551616 ^ m * wv l := by
  rw [wv_append, List.length_replicate]
  have : wv (List.replicate m 0) = 0 := by
    induction m with
    | zero => rfl
    | succ m ih => rw [List.replicate_succ]; simp [wv, ih]
  rw [this, Nat.zero_add]
theorem shift_val (n b : Nat) : 18446744073709551616 ^ (b / 64) * (n * 2 ^ (b % 64)) = n * 2 ^ b := by
  rw [word_pow, Nat.mul_left_comm, ← Nat.pow_add, show 64 * (b / 64) + b % 64 = b by omega]
end Go.Proofs.YtklhfagcembigaaGreatDoor

/- The program's Bits and Shift of numbers without a bound. -/
namespace Go.Proofs.YtklhfagcembigaaGreatDoor
open Go.RowKit

theorem ownsRow_below {w w' : World} {B e size n : Nat} {v : Value} {xs : List Value} (h : w.ownsRow B e size v n xs) (hb : Below w.heap.size w w') : w'.ownsRow B e size v n xs := by
  obtain ⟨hl, hr⟩ := h
  rcases hr with h | ⟨g, cap, cur, hv, hg, hh, r⟩
  · exact ⟨hl, Or.inl h⟩
  · exact ⟨hl, Or.inr ⟨g, cap, cur, hv, hg, by rw [hb.block g (heap_lt hh)]; exact hh, r⟩⟩

/-- make with a length and a greater capacity: noughts. -/
theorem wpList_make_words (w : World) {ops : Array Oper} {rest : List Oper} {o : Oper} {a : Act} {Q : Exit → Act → World → Prop}
    (hg : o.guard = none) (l c : Operand) (t : TypeId) (hop : o.op = Op.makeSlice t l c)
    (i : TypeInfo) (h1 : Tryz.prog.underlying t = some (.slice 118)) (h2 : Tryz.prog.info? 118 = some i ∧ i.zero = some (.int .u64 0) ∧ i.size = 1 ∧ i.bytes = 8)
    (kl kc : IntKind) (L C : Int) (m n : Nat) (hl : a.eval l = .int kl L) (hc : a.eval c = .int kc C) (hL : L = (m : Int)) (hC : C = (n : Int)) (hmn : m ≤ n) (hn : n ≤ 100000000)
    (hK : ∀ w', w'.ownsRow w.heap.size 118 1 (.slice (some ⟨w.heap.size, 0, none⟩) m n) (List.replicate m 0).length (wordCells (List.replicate m 0)) → Below w.heap.size w w' → wpList Tryz.prog ops Q rest (a.put o.dst (.slice (some ⟨w.heap.size, 0, none⟩) m n)) w') :
    wpList Tryz.prog ops Q (o :: rest) a w := by
  refine wpList_plain hg fun K hK' => ?_
  obtain ⟨hi, hz, hs, hby⟩ := h2
  have hr := run_make (P := Tryz.prog) w t 118 i (.int .u64 0) h1 hi hz kl kc (m : Int) (n : Int) (by omega) (by omega) (by rw [hby]; omega) (by omega)
  simp only [Int.toNat_natCast, hs, Nat.mul_one] at hr
  subst hL hC
  unfold Oper.wp
  simp [execOp, hop, hl, hc, hr, Result.andThen]
  refine hK' _ _ (hK _ ⟨by simp [wordCells], Or.inr ⟨w.heap.size, n, madeCells (Value.int .u64 0).cells n, by simp, Nat.le_refl _, by show (w.alloc _).heap[w.heap.size]? = some _; unfold World.alloc; simp, by simpa using hmn, by unfold maxLen; omega, by rw [size_madeCells]; omega, ?_⟩⟩ ((Below.refl _ _).alloc (Nat.le_refl _) _))
  refine List.ext_getElem? fun j => ?_
  simp only [List.length_replicate, Nat.mul_one]
  rcases Nat.lt_or_ge j m with hj | hj
  · rw [List.getElem?_take_of_lt hj]
    simp [wordCells, madeCells, Value.cells, hj, show j < n by omega, Nat.mod_one]
  · rw [List.getElem?_eq_none (by simp [madeCells]; omega), List.getElem?_eq_none (by simp [wordCells]; omega)]

set_option maxRecDepth 10000 in
set_option maxHeartbeats 1000000 in
theorem Bits_any (u : Value) (n k : Nat) (w : World) (h : NatAt w u n) (hn0 : 0 < n) (hk : n < 18446744073709551616 ^ k) (hk6 : k ≤ 1000000) :
    Calls Tryz.prog 80 #[u] w fun e w' => e = .returned (.int .i64 (bitLen n : Nat)) ∧ w' = w := by
  obtain ⟨x, hx1, hx2, rfl, hx⟩ := h
  have hlen := wlen_le_of_lt hx2 hk
  rcases hx with ⟨ad, cap, rfl, rfl⟩ | ⟨b, o, cap, rfl, h1, h2, h3⟩
  · simp [wv] at hn0
  · obtain ⟨m, hm⟩ : ∃ m, x.length = m + 1 := ⟨x.length - 1, by omega⟩
    have hb := bits_words hx1 hx2 hm
    have hc := h3 m (by omega)
    have hd := hx1 m (by omega)
    have h64 : bitLen (x.getD m 0) ≤ 64 := bitLen_le_of_lt (by have := hd; rw [show (18446744073709551616 : Nat) = 2 ^ 64 by decide] at this; exact this)
    rw [hb, hm]
    have hl64 := Len64_any (x.getD m 0) w hd
    generalize x.getD m 0 = d at hc hd hl64 h64
    clear hb h3 hx1 hx2 hk hn0 h1 h2
    have hm6 : m + 1 ≤ 1000000 := by omega
    clear hm hlen
    have i0 : (0 : Int) ≤ (m : Int) := by omega
    go_enter Tryz.func80, Tryz.ntmps80
    go_wp2_with fail
    refine hl64.mono ?_
    clear hl64
    rintro e w1 ⟨rfl, hw⟩
    go_wp2_with fail
    go_ret
    exact ⟨ret_int (by omega), rfl⟩

theorem noEnd_join {l r : List Nat} (h : NoEnd r) (hp : 0 < r.length) : NoEnd (l ++ r) := fun i hi => by
  rw [List.length_append] at hi
  have := h (i - l.length) (by omega)
  rw [List.getD_eq_getElem?_getD] at this ⊢
  rw [List.getElem?_append_right (by omega)]
  exact this
theorem wrd_join {l r : List Nat} (hl : Wrd l) (hr : Wrd r) : Wrd (l ++ r) := fun i hi => by
  rw [List.length_append] at hi
  rcases Nat.lt_or_ge i l.length with h' | h'
  · rw [wgetD_append_left h']; exact hl i h'
  · have := hr (i - l.length) (by omega)
    rw [List.getD_eq_getElem?_getD] at this ⊢
    rw [List.getElem?_append_right (by omega)]
    exact this
theorem wrd_zeros (m : Nat) : Wrd (List.replicate m 0) := fun i hi => by
  rw [List.getD_eq_getElem?_getD]
  rw [List.length_replicate] at hi
  simp [hi]

theorem shl_word {r : Nat} (h : r < 64) : IntKind.u64.wrap (2 ^ r) = ((2 ^ r : Nat) : Int) ∧ 2 ^ r < 18446744073709551616 := by
  have h1 : 2 ^ r < 2 ^ 64 := Nat.pow_lt_pow_right (by decide) h
  have h2 : (2 : Nat) ^ 64 = 18446744073709551616 := by decide
  rw [h2] at h1
  have h3 : ((2 : Int) ^ r) = ((2 ^ r : Nat) : Int) := by simp
  refine ⟨?_, h1⟩
  rw [h3, IntKind.wrap_u64]
  generalize 2 ^ r = z at h1
  omega
theorem wordCells_join (l r : List Nat) : wordCells (l ++ r) = wordCells l ++ wordCells r := by simp [wordCells]
theorem wordCells_length (l : List Nat) : (wordCells l).length = l.length := by simp [wordCells]
theorem wordCells_news {w : World} {b o : Nat} {l : List Nat} (h : ∀ i, i < l.length → w.cell? ⟨b, o + i, none⟩ = some (.int .u64 ((l.getD i 0 : Nat) : Int))) (j : Nat) (u : Value) (hu : (wordCells l)[j]? = some u) : w.cell? ((⟨b, o, none⟩ : Addr).add j) = some u := by
  have hj : j < l.length := by
    rcases Nat.lt_or_ge j l.length with h' | h'
    · exact h'
    · rw [List.getElem?_eq_none (by rw [wordCells_length]; omega)] at hu; cases hu
  rw [add_plain, h j hj, ← hu]
  simp [wordCells, hj]
theorem wordCells_one (l : List Nat) (u : Value) (hu : u ∈ wordCells l) : u.oneCell' = true := by
  simp only [wordCells, List.mem_map] at hu
  obtain ⟨d, _, rfl⟩ := hu
  rfl

set_option maxRecDepth 10000 in
set_option maxHeartbeats 1000000 in
theorem Shift_any (u : Value) (n s k : Nat) (w : World) (h : NatAt w u n) (hn0 : 0 < n) (hk : n < 18446744073709551616 ^ k) (hk6 : k ≤ 1000000) (hs : s ≤ 1000000) :
    Calls Tryz.prog 81 #[u, .int .i64 s] w fun e w' => ∃ v, e = .returned v ∧ NatAt w' v (n * 2 ^ s) ∧ Below w.heap.size w w' := by
  obtain ⟨i0, hi, hz0, hz1, hz2⟩ := info_parts Tryz.infoWord
  have HINF : Hid (Tryz.prog.info? 118 = some i0 ∧ i0.zero = some (.int .u64 0) ∧ i0.size = 1 ∧ i0.bytes = 8) := ⟨hi, hz0, hz1, hz2⟩
  clear hi hz0 hz1 hz2
  obtain ⟨x, hx1, hx2, hxv, hx⟩ := h
  have hlen := wlen_le_of_lt hx2 (by rw [hxv]; exact hk)
  have hpos : 0 < x.length := by
    rcases Nat.eq_zero_or_pos x.length with h0 | h0
    · rw [List.eq_nil_of_length_eq_zero h0] at hxv
      simp [wv] at hxv
      omega
    · exact h0
  obtain ⟨ad, cap, rfl⟩ := hx.form
  have HN := Hid.mk' (show NatAt w (.slice ad x.length cap) n from ⟨x, hx1, hx2, hxv, hx⟩)
  have HK := Hid.mk' hk
  clear hx1 hx2 hxv hx hk
  have hlz : ((x.length : Int) == 0) = false := by rw [beq_eq_false_iff_ne]; omega
  go_enter Tryz.func81, Tryz.ntmps81
  go_wp2_with (at_make; go_must (refine wpList_make_words _ rfl _ _ _ rfl i0 Tryz.underlying78 HINF.out _ _ _ _ (s / 64) (s / 64 + x.length + 1) rfl rfl (by omega) (by omega) (by omega) (by omega) ?_; intro w1 hown hbel; have HO := Hid.mk' hown; have HB1 := Hid.mk' hbel; clear hown hbel))
  rw [(shl_word (show s % 64 < 64 by omega)).1]
  refine (Times_any _ n (2 ^ (s % 64)) k w1 (HN.out.later HB1.out) (Nat.two_pow_pos _) (shl_word (show s % 64 < 64 by omega)).2 HK.out hk6).mono ?_
  rintro e w2 ⟨v, rfl, ⟨y, hy1, hy2, hyv, hy⟩, hb2⟩
  have HO2 := Hid.mk' (ownsRow_below HO.out hb2)
  have HB2 := Hid.mk' (below_chain HB1.out hb2)
  clear HO
  rcases hy with ⟨ad', cap', rfl, rfl⟩ | ⟨b', o', cap', rfl, hyc, hyp, hyl⟩
  · exfalso
    have := Nat.mul_pos hn0 (Nat.two_pow_pos (s % 64))
    simp [wv] at hyv
    omega
  have hyn := wlen_le_of_lt hy2 (k := k + 1) (by
    rw [hyv, Nat.pow_succ]
    exact Nat.mul_lt_mul'' HK.out (shl_word (show s % 64 < 64 by omega)).2)
  have HY := Hid.mk' hyl
  have HYV := Hid.mk' hyv
  have HY1 := Hid.mk' hy1
  have HY2 := Hid.mk' hy2
  have hz2 := HB2.out.size
  clear hyl hyv hy1 hy2 hb2
  go_wp2_with (at_builtin; go_must (refine wpList_append_lies _ rfl _ _ _ rfl w.heap.size 118 i0 _ 1 8 Tryz.underlying78 HINF.out.1 HINF.out.2.1 HINF.out.2.2.1 HINF.out.2.2.2 rfl (by omega) _ _ _ rfl HO2.out ⟨b', o', none⟩ y.length cap' (wordCells y) rfl (by rw [wordCells_length]; omega) (wordCells_news HY.out) (wordCells_one y) hyp (by unfold maxLen; rw [List.length_replicate]; omega) (by rw [List.length_replicate]; omega) hz2 _ rfl ?_; intro g' cap'' w3 hown3 hgrow3 hat3 hlt3; have HO3 := Hid.mk' hown3; have HG3 := Hid.mk' hgrow3; clear hown3 hgrow3 hat3))
  go_ret
  have ho : w3.ownsRow w.heap.size 118 1 (.slice (some ⟨g', 0, none⟩) (s / 64 + y.length) cap'') (List.replicate (s / 64) 0 ++ y).length (wordCells (List.replicate (s / 64) 0 ++ y)) := by
    rw [wordCells_join]; simpa using HO3.out
  refine ⟨_, rfl, ⟨List.replicate (s / 64) 0 ++ y, wrd_join (wrd_zeros _) HY1.out, noEnd_join HY2.out hyp, by rw [wv_zeros_then, HYV.out, shift_val], by simpa using wordsAt_of_row ho⟩, HB2.out.grown HG3.out hz2 (fun j hj => Nat.le_of_eq (Option.some.inj (show some w.heap.size = some j from hj)))⟩
end Go.Proofs.YtklhfagcembigaaGreatDoor

/- The program's Floor, FloorLog and Grains. -/
namespace Go.Proofs.YtklhfagcembigaaGreatDoor
open Go.RowKit

theorem floor_less {a b : Int} (hb : 0 < b) (h : a.tmod b < 0) : a.tdiv b - 1 = a / b := by
  have h1 := Int.mul_tdiv_add_tmod a b
  have h2 : -b < a.tmod b := by have := tmod_small a b (by omega); omega
  have h3 := (Int.ediv_emod_unique (a := a) (b := b) (r := a.tmod b + b) (q := a.tdiv b - 1) hb).2 ⟨by rw [Int.mul_sub]; omega, by omega, by omega⟩
  exact h3.1.symm
theorem floor_same {a b : Int} (hb : 0 < b) (h : ¬ a.tmod b < 0) : a.tdiv b = a / b := by
  have h1 := Int.mul_tdiv_add_tmod a b
  have h2 := Int.tmod_lt_of_pos a hb
  exact ((Int.ediv_emod_unique (a := a) (b := b) (r := a.tmod b) (q := a.tdiv b) hb).2 ⟨by omega, by omega, by omega⟩).1.symm
theorem tdiv_bound {a b : Int} (h0 : -1000000 ≤ a) (h1 : a ≤ 1000000) : -1000000 ≤ a.tdiv b ∧ a.tdiv b ≤ 1000000 := by
  have := Int.natAbs_tdiv_le_natAbs a b
  omega

set_option maxRecDepth 10000 in
set_option maxHeartbeats 1000000 in
theorem Floor_any (a b : Int) (w : World) (h0 : -1000000 ≤ a) (h1 : a ≤ 1000000) (hb : 0 < b) (hb6 : b ≤ 1000000) :
    Calls Tryz.prog 48 #[.int .i64 a, .int .i64 b] w fun e w' => e = .returned (.int .i64 (a / b)) ∧ w' = w := by
  have hbz : ¬ b = 0 := by omega
  have hq := tdiv_bound (b := b) h0 h1
  by_cases h : a.tmod b < 0
  · rw [← floor_less hb h]
    go_enter Tryz.func48, Tryz.ntmps48
    go_wp2_with fail
    go_ret
    exact ⟨rfl, rfl⟩
  · rw [← floor_same hb h]
    go_enter Tryz.func48, Tryz.ntmps48
    go_wp2_with fail
    go_ret
    exact ⟨rfl, rfl⟩

set_option maxRecDepth 10000 in
set_option maxHeartbeats 1000000 in
theorem FloorLog_any (u v : Value) (a b k : Nat) (w : World) (hu : NatAt w u a) (hv : NatAt w v b) (ha : 0 < a) (hb : 0 < b) (hka : a < 18446744073709551616 ^ k) (hkb : b < 18446744073709551616 ^ k) (hk6 : k ≤ 100000) (hla : bitLen a ≤ 50000) (hlb : bitLen b ≤ 50000) :
    Calls Tryz.prog 49 #[u, v] w fun e w' => ∃ z : Int, e = .returned (.int .i64 z) ∧ IsLog z a b ∧ -50001 ≤ z ∧ z ≤ 50001 ∧ Below w.heap.size w w' := by
  have hba := Bits_any u a k w hu ha hka (by omega)
  have hbb := Bits_any v b k w hv hb hkb (by omega)
  obtain ⟨la, hda⟩ : ∃ la, bitLen a = la := ⟨_, rfl⟩
  obtain ⟨lb, hdb⟩ : ∃ lb, bitLen b = lb := ⟨_, rfl⟩
  have HDA := Hid.mk' hda
  have HDB := Hid.mk' hdb
  rw [hda] at hba hla
  rw [hdb] at hbb hlb
  have hsa := Shift_any u a (lb - la) k w hu ha hka (by omega) (by omega)
  have HV := Hid.mk' hv
  have HKA := Hid.mk' hka
  have HKB := Hid.mk' hkb
  obtain ⟨R, hR⟩ : ∃ R, R = 100001 := ⟨_, rfl⟩
  have hroom : ∀ z s : Nat, z < 18446744073709551616 ^ k → s ≤ 100000 → z * 2 ^ s < 18446744073709551616 ^ (k + R) := fun z s hz hs => by
    rw [Nat.pow_add]
    exact Nat.mul_lt_mul'' hz (Nat.lt_of_le_of_lt (Nat.pow_le_pow_left (show 2 ≤ 18446744073709551616 by decide) s) (Nat.pow_lt_pow_right (by decide) (by omega)))
  have HR := Hid.mk' hroom
  clear hda hdb hu hv hka hkb hroom
  have e1 : max 0 (-((la : Int) - (lb : Int))) = ((lb - la : Nat) : Int) := by omega
  have e2 : max 0 ((la : Int) - (lb : Int)) = ((la - lb : Nat) : Int) := by omega
  have HE1 := Hid.mk' e1
  have HE2 := Hid.mk' e2
  clear e1 e2
  go_enter Tryz.func49, Tryz.ntmps49
  go_wp2_with fail
  refine hba.mono ?_
  clear hba
  rintro e w1 ⟨rfl, hw1⟩
  rw [hw1]
  clear hw1
  go_wp2_with fail
  refine hbb.mono ?_
  clear hbb
  rintro e w1 ⟨rfl, hw1⟩
  rw [hw1]
  clear hw1
  go_wp2_with fail
  rw [HE1.out]
  refine hsa.mono ?_
  clear hsa
  rintro e w2 ⟨u2, rfl, hu2, hb2⟩
  have hsb := Shift_any v b (la - lb) k w2 (HV.out.later hb2) hb HKB.out (by omega) (by omega)
  have HU2 := Hid.mk' hu2
  have HB2 := Hid.mk' hb2
  clear hu2 hb2
  go_wp2_with fail
  rw [HE2.out]
  refine hsb.mono ?_
  clear hsb
  rintro e w3 ⟨v2, rfl, hv2, hb3⟩
  have hcmp := NatCmp_any u2 v2 _ _ (k + R) w3 (HU2.out.later hb3) hv2 (HR.out _ _ HKA.out (by omega)) (HR.out _ _ HKB.out (by omega)) (by omega)
  have HB3 := Hid.mk' (below_chain HB2.out hb3)
  clear hv2 hb3
  by_cases hle : le2 ((la : Int) - (lb : Int)) a b
  · have hz : 0 ≤ cmpOf (a * 2 ^ (lb - la)) (b * 2 ^ (la - lb)) := by
      have := (le2_iff (x := la - lb) (y := lb - la) (by omega)).1 hle
      unfold cmpOf
      split
      · omega
      · split <;> omega
    have hlog := isLog_of (a := a) hb (by rw [HDA.out, HDB.out]; exact hle)
    rw [HDA.out, HDB.out] at hlog
    have HLOG := Hid.mk' hlog
    clear hle hlog
    generalize cmpOf (a * 2 ^ (lb - la)) (b * 2 ^ (la - lb)) = z at hcmp hz
    go_wp2_with fail
    refine hcmp.mono ?_
    clear hcmp
    rintro e w4 ⟨rfl, m, hw4⟩
    go_wp2_with fail
    go_ret
    exact ⟨_, rfl, HLOG.out, by omega, by omega, below_drewN HB3.out _⟩
  · have hz : cmpOf (a * 2 ^ (lb - la)) (b * 2 ^ (la - lb)) < 0 := by
      have := fun h => hle ((le2_iff (x := la - lb) (y := lb - la) (by omega)).2 h)
      rw [cmpOf_lt (Nat.lt_of_not_le this)]
      omega
    have hlog := isLog_less (b := b) ha (by rw [HDA.out, HDB.out]; exact hle)
    rw [HDA.out, HDB.out] at hlog
    have HLOG := Hid.mk' hlog
    clear hle hlog
    generalize cmpOf (a * 2 ^ (lb - la)) (b * 2 ^ (la - lb)) = z at hcmp hz
    go_wp2_with fail
    refine hcmp.mono ?_
    clear hcmp
    rintro e w4 ⟨rfl, m, hw4⟩
    go_wp2_with fail
    go_ret
    exact ⟨_, rfl, HLOG.out, by omega, by omega, below_drewN HB3.out _⟩

theorem isGr_of {z den : Int} {U D : Nat} (h : IsLog z U D) (h0 : -50001 ≤ z) (h1 : z ≤ 50001) (hd : 0 < den) (hd6 : den ≤ 1000000) : le2 (z / den * den) U D ∧ ¬ le2 ((z / den + 1) * den) U D ∧ -50001 ≤ z / den ∧ z / den ≤ 50001 ∧ -1050001 ≤ z / den * den ∧ z / den * den ≤ 1050001 ∧ -1050001 ≤ (z / den + 1) * den ∧ (z / den + 1) * den ≤ 1050001 := by
  obtain ⟨h2, h3⟩ := isLog_floor hd h rfl
  have h4 : z / den * den ≤ z := Int.ediv_mul_le z (by omega)
  have h5 : z < (z / den + 1) * den := Int.lt_ediv_add_one_mul_self z hd
  have h6 : (z / den + 1) * den = z / den * den + den := by rw [Int.add_mul, Int.one_mul]
  have h7 : -50001 ≤ z / den := by
    rw [Int.le_ediv_iff_mul_le hd]
    have : den * 50001 ≥ 1 * 50001 := Int.mul_le_mul_of_nonneg_right (by omega) (by omega)
    omega
  have h8 : z / den ≤ 50001 := by
    have : z / den < 50002 := by
      rw [Int.ediv_lt_iff_lt_mul hd]
      have : den * 50002 ≥ 1 * 50002 := Int.mul_le_mul_of_nonneg_right (by omega) (by omega)
      omega
    omega
  exact ⟨h2, h3, h7, h8, by omega, by omega, by omega, by omega⟩
theorem side_pos {p c : Nat → Int} {t n : Nat} (hb : Bounded n p c) : ∀ k, k ≤ n → 0 < sideUp p c t k ∧ 0 < sideDown p c t k
  | 0, _ => ⟨Nat.one_pos, Nat.one_pos⟩
  | k + 1, h => by
    have ih := side_pos (t := t) hb k (by omega)
    have hp : 0 < (p k).toNat ^ ((c k).natAbs * t) := Nat.pow_pos (by have := (hb k (by omega)).1; omega)
    by_cases hc : 0 < c k
    · rw [sideUp_pos hc, sideDown_pos hc]; exact ⟨Nat.mul_pos ih.1 hp, ih.2⟩
    · rw [sideUp_neg hc, sideDown_neg hc]; exact ⟨ih.1, Nat.mul_pos ih.2 hp⟩
theorem side_bits {p c : Nat → Int} {t n : Nat} (h : t * cost p c n ≤ 40000) : bitLen (sideUp p c t n) ≤ 50000 ∧ bitLen (sideDown p c t n) ≤ 50000 := by
  have h1 := sides_le p c t n
  have h2 : 2 ^ (t * cost p c n) < 2 ^ (t * cost p c n + 1) := Nat.pow_lt_pow_right (by decide) (by omega)
  have h3 := bitLen_le_of_lt (Nat.lt_of_le_of_lt h1.1 h2)
  have h4 := bitLen_le_of_lt (Nat.lt_of_le_of_lt h1.2 h2)
  omega

set_option maxRecDepth 10000 in
set_option maxHeartbeats 1000000 in
theorem Grains_fit_log (den : Int) (sv : Value) (n : Nat) (p c : Nat → Int) (a : Nat → Addr) (hok : OkLog den n p c) (hfit : cost p c n ≤ 1250) (w : World) (h : Errs w a) (hs : LogAt w sv n p c) (hn : n ≤ 10000) :
    Calls Tryz.prog 21 #[.agg #[.int .i64 den, sv]] w fun e w' => ∃ z : Int, e = .returned (.tuple #[.int .i64 (z / den), .nilIface]) ∧ IsLog z (sideUp p c 32 n) (sideDown p c 32 n) ∧ -50001 ≤ z ∧ z ≤ 50001 ∧ Below w.heap.size w w' := by
  have hb0 : Below w.heap.size w (w.alloc (.cells #[.int .i64 den, sv] 27)) := (Below.refl _ _).alloc (Nat.le_refl _) _
  have hck := checkPowers_ok den sv n 1250 p c a hok true ⟨fun _ => hfit, fun _ => rfl⟩ (w.alloc (.cells #[.int .i64 den, sv] 27)) (h.below hb0) (hs.later hb0) (by omega)
  simp only [powErr] at hck
  obtain ⟨ad, cap, rfl⟩ := hs.slice
  have hl := hs
  have hbd := hok.2.2.1.bounded
  have hd1 : 0 < den := hok.1
  have hd6 : den ≤ 1000000 := hok.2.1
  obtain ⟨K, hK, hKb⟩ : ∃ K, K ≤ 100000 ∧ 2 ^ (32 * cost p c n) < 18446744073709551616 ^ K := ⟨32 * cost p c n + 1, by omega, wpow_room _⟩
  have HSL := Hid.mk' (sides_lt (t := 32) (Nat.le_refl n) hKb)
  have HPO := Hid.mk' (side_pos (t := 32) hbd n (Nat.le_refl n))
  have HBI := Hid.mk' (side_bits (p := p) (c := c) (t := 32) (n := n) (by omega))
  have HKB := Hid.mk' hKb
  have HB0 := Hid.mk' hb0
  have HL := Hid.mk' hl
  have HBD := Hid.mk' hbd
  clear hb0 hl hbd hKb hok h hs
  go_enter Tryz.func21, Tryz.ntmps21
  go_wp2_with fail
  refine hck.mono ?_
  clear hck
  rintro e w1 ⟨rfl, hb1⟩
  have hc0 := hb1.cell (p := ⟨w.heap.size, 0, none⟩) (by simp)
  have hc1 := hb1.cell (p := ⟨w.heap.size, 1, none⟩) (by simp)
  simp at hc0 hc1
  have HB1 := Hid.mk' (below_chain HB0.out hb1)
  have hpw := powers_any den ad n cap 32 K p c w1 (HL.out.later HB1.out) (by omega) HBD.out (by omega) (by omega) HKB.out
  have HC0 := Hid.mk' hc0
  clear hb1 HB0
  go_wp2_with fail
  refine hpw.mono ?_
  clear hpw hc0 hc1
  rintro e w2 ⟨u, v, rfl, hu, hv, hb2⟩
  have hc0 := hb2.cell (cell_lt HC0.out)
  rw [HC0.out] at hc0
  have HFL := Hid.mk' (fun (W : World) (hb : Below w2.heap.size w2 W) => FloorLog_any u v _ _ K W (hu.later hb) (hv.later hb) HPO.out.1 HPO.out.2 HSL.out.1 HSL.out.2 hK HBI.out.1 HBI.out.2)
  have HKC : Hid (∀ W, Below w2.heap.size w2 W → W.cell? ⟨w.heap.size, 0, none⟩ = some (.int .i64 den)) := fun W hb => by rw [hb.cell (cell_lt hc0)]; exact hc0
  have HB2 := Hid.mk' (below_chain HB1.out hb2)
  have hcur : Below w2.heap.size w2 w2.drew := (Below.refl _ _).drew
  have hcur0 : Below w2.heap.size w2 w2 := Below.refl _ _
  clear hu hv hb2 HB1 HC0
  go_wp2_with fail
  go_region_held3 (fun W => W.cell? ⟨w.heap.size, 0, none⟩ = some (.int .i64 den))
    (exact HKC.out _ (by assumption))
    (first
      | (go_at_call 49; refine (HFL.out _ (by assumption)).mono ?_; rintro e w3 ⟨z, rfl, hlog, hz0, hz1, hbL⟩; have hcL := below_chain (by assumption) hbL)
      | (go_at_call 48; refine (Floor_any _ den _ (by omega) (by omega) hd1 hd6).mono ?_; rintro e w4 ⟨rfl, hw4⟩))
  go_wp2_with fail
  go_ret2
  exact ⟨z, rfl, hlog, hz0, hz1, below_chain HB2.out hcL⟩

set_option maxRecDepth 10000 in
set_option maxHeartbeats 1000000 in
theorem Grains_err_log (den : Int) (sv : Value) (n : Nat) (p c : Nat → Int) (a : Nat → Addr) (ok : Bool) (hok : ok = true ↔ OkLog den n p c) (hbad : ok = true → ¬ cost p c n ≤ 1250) (w : World) (h : Errs w a) (hs : LogAt w sv n p c) (hn : n ≤ 10000) :
    Calls Tryz.prog 21 #[.agg #[.int .i64 den, sv]] w fun e w' => e = .returned (.tuple #[.int .i64 0, powErr ok false a]) ∧ Below w.heap.size w w' := by
  have hb0 : Below w.heap.size w (w.alloc (.cells #[.int .i64 den, sv] 27)) := (Below.refl _ _).alloc (Nat.le_refl _) _
  have HB0 := Hid.mk' hb0
  cases ok
  · have hck := checkPowers_bad den sv n 1250 p c a (fun h => by have := hok.2 h; cases this) (w.alloc (.cells #[.int .i64 den, sv] 27)) (h.below hb0) (hs.later hb0) (by omega)
    simp only [powErr]
    clear hok hbad h hs hb0
    go_enter Tryz.func21, Tryz.ntmps21
    go_wp2_with fail
    refine hck.mono ?_
    clear hck
    rintro e w1 ⟨rfl, hb1⟩
    go_wp2_with fail
    go_ret2
    exact ⟨rfl, below_chain HB0.out hb1⟩
  · have hck := checkPowers_ok den sv n 1250 p c a (hok.1 rfl) false ⟨(fun e => by cases e), (fun e => absurd e (hbad rfl))⟩ (w.alloc (.cells #[.int .i64 den, sv] 27)) (h.below hb0) (hs.later hb0) (by omega)
    simp only [powErr] at hck
    simp only [powErr]
    clear hok hbad h hs hb0
    go_enter Tryz.func21, Tryz.ntmps21
    go_wp2_with fail
    refine hck.mono ?_
    clear hck
    rintro e w1 ⟨rfl, hb1⟩
    go_wp2_with fail
    go_ret2
    exact ⟨rfl, below_chain HB0.out hb1⟩
theorem Grains_fit (den : Int) (sv : Value) (n : Nat) (p c : Nat → Int) (a : Nat → Addr) (hok : OkLog den n p c) (hfit : cost p c n ≤ 1250) (w : World) (h : Errs w a) (hs : (sv = .slice none 0 0 ∧ n = 0) ∨ ∃ g cap, sv = .slice (some ⟨g, 0, none⟩) n cap ∧ TermsAt w g 0 n p c) (hn : n ≤ 30) :
    Calls Tryz.prog 21 #[.agg #[.int .i64 den, sv]] w fun e w' => ∃ z : Int, e = .returned (.tuple #[.int .i64 (z / den), .nilIface]) ∧ IsLog z (sideUp p c 32 n) (sideDown p c 32 n) ∧ -50001 ≤ z ∧ z ≤ 50001 ∧ Below w.heap.size w w' := by
  obtain ⟨ad, cap, rfl, hl⟩ := log_of_own hs
  exact Grains_fit_log den _ n p c a hok hfit w h hl (by omega)
theorem Grains_err (den : Int) (sv : Value) (n : Nat) (p c : Nat → Int) (a : Nat → Addr) (ok : Bool) (hok : ok = true ↔ OkLog den n p c) (hbad : ok = true → ¬ cost p c n ≤ 1250) (w : World) (h : Errs w a) (hs : (sv = .slice none 0 0 ∧ n = 0) ∨ ∃ g cap, sv = .slice (some ⟨g, 0, none⟩) n cap ∧ TermsAt w g 0 n p c) (hn : n ≤ 30) :
    Calls Tryz.prog 21 #[.agg #[.int .i64 den, sv]] w fun e w' => e = .returned (.tuple #[.int .i64 0, powErr ok false a]) ∧ Below w.heap.size w w' := by
  obtain ⟨ad, cap, rfl, hl⟩ := log_of_own hs
  exact Grains_err_log den _ n p c a ok hok hbad w h hl (by omega)
end Go.Proofs.YtklhfagcembigaaGreatDoor

/- demonlaw1.LogsProducts walked. -/
namespace Go.Proofs.YtklhfagcembigaaGreatDoor
open Go.RowKit Go.Maps

/-- A variable that holds a logarithm over 1. -/
structure LB (W : World) (B : Nat) (v : Value) (t : List (Int × Int)) : Prop where
  c0 : W.cell? ⟨B, 0, none⟩ = some (.int .i64 1)
  c1 : W.cell? ⟨B, 1, none⟩ = some v
  list : ListAt W v t
theorem LB.later {W W' : World} {B : Nat} {v : Value} {t : List (Int × Int)} (h : LB W B v t) (hb : Below W.heap.size W W') : LB W' B v t :=
  ⟨(cell_past h.c0 hb).2, (cell_past h.c1 hb).2, h.list.later hb⟩
theorem LB.new {w : World} {v : Value} {t : List (Int × Int)} (h : ListAt w v t) : LB (w.alloc (.cells #[.int .i64 1, v] 27)) w.heap.size v t :=
  ⟨by rw [World.cell?_alloc_at _ _ _ _ rfl]; rfl, by rw [World.cell?_alloc_at _ _ _ _ rfl]; rfl, h.later ((Below.refl _ _).alloc (Nat.le_refl _) _)⟩
theorem LB.more {w : World} {B : Nat} {v : Value} {t : List (Int × Int)} (h : LB w B v t) (X : Obj) : LB (w.alloc X) B v t := h.later ((Below.refl _ _).alloc (Nat.le_refl _) _)

theorem SameLog_own (den : Int) (v1 v2 : Value) (n : Nat) (p c : Nat → Int) (w : World) (h1 : OwnAt w v1 n p c) (h2 : OwnAt w v2 n p c) (hn : n ≤ 1000000) :
    Calls Tryz.prog 30 #[.agg #[.int .i64 den, v1], .agg #[.int .i64 den, v2]] w fun e w' => e = .returned (.bool true) ∧ Below w.heap.size w w' := by
  rcases h1 with ⟨rfl, h0⟩ | ⟨g1, c1, rfl, t1⟩
  · rcases h2 with ⟨rfl, _⟩ | ⟨g2, c2, rfl, t2⟩
    · exact SameLog_none den none none 0 0 w
    · subst h0; exact SameLog_none den none _ 0 c2 w
  · rcases h2 with ⟨rfl, h0⟩ | ⟨g2, c2, rfl, t2⟩
    · subst h0; exact SameLog_none den _ none c1 0 w
    · exact SameLog_some den g1 0 c1 g2 0 c2 n p c w t1 t2 hn

/-- Two logarithms over 1 with small coefficients added. -/
theorem Add_one (v1 v2 : Value) (t1 t2 : List (Int × Int)) (a : Nat → Addr) (w : World) (h : Errs w a) (hl1 : ListAt w v1 t1) (hl2 : ListAt w v2 t2) (hok1 : OkLog 1 t1.length (pOf t1) (cOf t1)) (hok2 : OkLog 1 t2.length (pOf t2) (cOf t2))
    (hb1 : ∀ e ∈ t1, -19 ≤ e.2 ∧ e.2 ≤ 19) (hb2 : ∀ e ∈ t2, -19 ≤ e.2 ∧ e.2 ≤ 19) (hn : t1.length + t2.length ≤ 100) :
    Calls Tryz.prog 40 #[.agg #[.int .i64 1, v1], .agg #[.int .i64 1, v2]] w fun e w' => ∃ v t, e = .returned (.tuple #[.agg #[.int .i64 1, v], .nilIface]) ∧ ListAt w' v t ∧ Rising t ∧ (∀ e ∈ t, e.2 ≠ 0) ∧ (∀ x, atL t x = atL t1 x + atL t2 x) ∧ t.length ≤ t1.length + t2.length ∧ Below w.heap.size w w' := by
  obtain ⟨ad1, cap1, rfl, hg1⟩ := log_of_own hl1
  obtain ⟨ad2, cap2, rfl, hg2⟩ := log_of_own hl2
  refine (Add_ok 1 1 ad1 ad2 cap1 cap2 t1 t2 a w h hg1 hg2 hok1 hok2 (by omega) 1 rfl (fun l hr hv => ⟨1, gcdTo_one _ _, by decide, fun e he => ?_⟩)).mono ?_
  · have h1 := atL_mem hr he
    rw [hv] at h1
    have h2 := atL_bound (B := 19) (by omega) hb1 e.1
    have h3 := atL_bound (B := 19) (by omega) hb2 e.1
    simp at h1 ⊢
    omega
  · rintro e w' ⟨v, l, G, hr, hv, hG, rfl, hl, hln, hb⟩
    have hG1 : G = 1 := by rw [← hG]; exact gcdTo_one _ _
    subst hG1
    exact ⟨v, overL 1 l, rfl, hl, rising_over hr 1, fun e he => over_nz he, fun x => by rw [atL_over hr, hv]; simp, Nat.le_trans (length_over l 1) hln, hb⟩

/-- The sum of the coefficients of a prime, term by term. -/
def sumTo (p c : Nat → Int) (x : Int) : Nat → Int
  | 0 => 0
  | k + 1 => sumTo p c x k + if p k = x then c k else 0
theorem sumTo_list {t : List (Int × Int)} (hr : Rising t) (x : Int) : ∀ k, k ≤ t.length → sumTo (pOf t) (cOf t) x k = atL (t.take k) x
  | 0, _ => rfl
  | k + 1, h => by
    rw [atL_take hr (by omega)]
    show sumTo _ _ _ k + _ = _
    rw [sumTo_list hr x k (by omega)]
theorem mult_sides {n : Nat} {p c : Nat → Int} (hp : ∀ i, i < n → Pr (p i).toNat ∧ 2 ≤ p i) {x : Nat} (hx : Pr x) : ∀ k, k ≤ n → (mult x (sideUp p c 1 k) : Int) - (mult x (sideDown p c 1 k) : Int) = sumTo p c (x : Int) k ∧ 0 < sideUp p c 1 k ∧ 0 < sideDown p c 1 k
  | 0, _ => ⟨by simp [sideUp, sideDown, sumTo], Nat.one_pos, Nat.one_pos⟩
  | k + 1, h => by
    obtain ⟨ih, h1, h2⟩ := mult_sides hp hx k (by omega)
    obtain ⟨hpk, hp2⟩ := hp k (by omega)
    have hpp : 0 < (p k).toNat ^ ((c k).natAbs * 1) := Nat.pow_pos (by omega)
    have hm := mult_pow hx hpk ((c k).natAbs * 1)
    have hiff : (x = (p k).toNat) ↔ (p k = (x : Int)) := by omega
    have hs : sumTo p c (x : Int) (k + 1) = sumTo p c (x : Int) k + if p k = (x : Int) then c k else 0 := rfl
    by_cases hc : 0 < c k
    · rw [sideUp_pos hc, sideDown_pos hc, mult_mul hx _ _ h1 hpp, hm, hs, ← ih]
      refine ⟨?_, Nat.mul_pos h1 hpp, h2⟩
      by_cases he : x = (p k).toNat
      · rw [if_pos he, if_pos (hiff.1 he)]; omega
      · rw [if_neg he, if_neg (fun e => he (hiff.2 e))]; omega
    · rw [sideUp_neg hc, sideDown_neg hc, mult_mul hx _ _ h2 hpp, hm, hs, ← ih]
      refine ⟨?_, h1, Nat.mul_pos h2 hpp⟩
      by_cases he : x = (p k).toNat
      · rw [if_pos he, if_pos (hiff.1 he)]; omega
      · rw [if_neg he, if_neg (fun e => he (hiff.2 e))]; omega
/-- The sides of the logarithm of a over b are as a to b. -/
theorem IsOf.sides {a b : Nat} {t : List (Int × Int)} (h : IsOf a b t) (ha : 0 < a) (ha6 : a ≤ 1000000) (hb : 0 < b) (hb6 : b ≤ 1000000) : sideUp (pOf t) (cOf t) 1 t.length * b = sideDown (pOf t) (cOf t) 1 t.length * a ∧ 0 < sideUp (pOf t) (cOf t) 1 t.length ∧ 0 < sideDown (pOf t) (cOf t) 1 t.length := by
  have hp : ∀ i, i < t.length → Pr (pOf t i).toNat ∧ 2 ≤ pOf t i := fun i hi => by
    have := (h.terms ha ha6 hb hb6 _ (getD_mem hi)).1
    exact ⟨this.2.2.2.2.2, this.2.2.2.2.1⟩
  have h2 : Pr 2 := ⟨by omega, fun d hd hdd => by have := Nat.mul_le_mul hd hd; omega⟩
  have hpos := (mult_sides (c := cOf t) hp h2 t.length (Nat.le_refl _)).2
  refine ⟨eq_of_mult _ _ (Nat.mul_pos hpos.1 hb) (Nat.mul_pos hpos.2 ha) (fun q hq => ?_), hpos⟩
  have h1 := (mult_sides (c := cOf t) hp hq t.length (Nat.le_refl _)).1
  rw [sumTo_list h.rise _ _ (Nat.le_refl _), List.take_length, h.val, multI_pr (x := (q : Int)) (by simpa using hq), multI_pr (x := (q : Int)) (by simpa using hq)] at h1
  rw [mult_mul hq _ _ hpos.1 hb, mult_mul hq _ _ hpos.2 ha]
  simp only [Int.toNat_natCast] at h1
  omega
theorem sides_order {U D a b : Nat} (h : U * b = D * a) (hU : 0 < U) (hD : 0 < D) : (a < b → U < D) ∧ (b < a → D < U) ∧ (a = b → 0 < a → U = D) := by
  refine ⟨fun hl => ?_, fun hl => ?_, fun he ha => ?_⟩
  · rcases Nat.lt_or_ge U D with h' | h'
    · exact h'
    · have h1 := Nat.mul_le_mul_right a h'
      have h2 := Nat.mul_lt_mul_of_pos_left hl hU
      omega
  · rcases Nat.lt_or_ge D U with h' | h'
    · exact h'
    · have h1 := Nat.mul_le_mul_right b h'
      have h2 := Nat.mul_lt_mul_of_pos_left hl hD
      omega
  · subst he
    exact Nat.eq_of_mul_eq_mul_right ha h
theorem cost_small {n : Nat} {p c : Nat → Int} (hp : ∀ i, i < n → 2 ≤ p i ∧ p i ≤ 1000000 ∧ -19 ≤ c i ∧ c i ≤ 19) : ∀ k, k ≤ n → cost p c k ≤ k * 380
  | 0, _ => by simp [cost]
  | k + 1, h => by
    have ih := cost_small hp k (by omega)
    obtain ⟨h1, h2, h3, h4⟩ := hp k (by omega)
    have hm := Nat.mul_le_mul (show (c k).natAbs ≤ 19 by omega) (bitLen_million (n := (p k).toNat) (by omega))
    have e : cost p c (k + 1) = cost p c k + (c k).natAbs * bitLen (p k).toNat := rfl
    omega
end Go.Proofs.YtklhfagcembigaaGreatDoor

/- Grains of a sum; the sign of an opposite. -/
namespace Go.Proofs.YtklhfagcembigaaGreatDoor

theorem le2_pow {k : Int} {a b : Nat} (h : le2 k a b) (m : Nat) : le2 (k * (m : Int)) (a ^ m) (b ^ m) := by
  unfold le2 at h
  have h1 := Nat.pow_le_pow_left h m
  rw [Nat.mul_pow, Nat.mul_pow, ← Nat.pow_mul, ← Nat.pow_mul] at h1
  refine (le2_iff (x := k.toNat * m) (y := (-k).toNat * m) ?_).2 h1
  rw [Int.natCast_mul, Int.natCast_mul, ← Int.sub_mul]
  congr 1
  omega
theorem not_le2_pow {k : Int} {a b : Nat} (h : ¬ le2 k a b) {m : Nat} (hm : 0 < m) : ¬ le2 (k * (m : Int)) (a ^ m) (b ^ m) := by
  unfold le2 at h
  have h1 := Nat.pow_lt_pow_left (Nat.lt_of_not_le h) (by omega : m ≠ 0)
  rw [Nat.mul_pow, Nat.mul_pow, ← Nat.pow_mul, ← Nat.pow_mul] at h1
  intro h2
  have h3 := (le2_iff (x := k.toNat * m) (y := (-k).toNat * m) (by
    rw [Int.natCast_mul, Int.natCast_mul, ← Int.sub_mul]
    congr 1
    omega)).1 h2
  omega
theorem le2_mul {k j : Int} {a b c d : Nat} (h : le2 k a b) (h' : le2 j c d) : le2 (k + j) (a * c) (b * d) := by
  unfold le2 at h h'
  have h1 := Nat.mul_le_mul h h'
  rw [Nat.mul_mul_mul_comm, Nat.mul_mul_mul_comm a, ← Nat.pow_add, ← Nat.pow_add] at h1
  exact (le2_iff (x := k.toNat + j.toNat) (y := (-k).toNat + (-j).toNat) (by omega)).2 h1
theorem not_le2_mul {k j : Int} {a b c d : Nat} (h : ¬ le2 k a b) (h' : ¬ le2 j c d) : ¬ le2 (k + j) (a * c) (b * d) := by
  unfold le2 at h h'
  have h1 := Nat.mul_lt_mul'' (Nat.lt_of_not_le h) (Nat.lt_of_not_le h')
  rw [Nat.mul_mul_mul_comm, Nat.mul_mul_mul_comm b, ← Nat.pow_add, ← Nat.pow_add] at h1
  intro h2
  have h3 := (le2_iff (x := k.toNat + j.toNat) (y := (-k).toNat + (-j).toNat) (by omega)).1 h2
  omega
theorem le2_same {k : Int} {a b c d : Nat} (hb : 0 < b) (hd : 0 < d) (h : a * d = c * b) : le2 k a b ↔ le2 k c d := by
  unfold le2
  generalize 2 ^ k.toNat = X
  generalize 2 ^ (-k).toNat = Y
  constructor
  · intro h1
    have h2 := Nat.mul_le_mul_right d h1
    have h3 : a * Y * d = c * Y * b := by rw [Nat.mul_right_comm, h, Nat.mul_right_comm]
    rw [h3] at h2
    exact Nat.le_of_mul_le_mul_right (by rw [Nat.mul_right_comm d X b, Nat.mul_comm d b, Nat.mul_right_comm b d X]; exact h2) hb
  · intro h1
    have h2 := Nat.mul_le_mul_right b h1
    have h3 : c * Y * b = a * Y * d := by rw [Nat.mul_right_comm, ← h, Nat.mul_right_comm]
    rw [h3] at h2
    exact Nat.le_of_mul_le_mul_right (by rw [Nat.mul_right_comm b X d, Nat.mul_comm b d, Nat.mul_right_comm d b X]; exact h2) hd
/-- The sides' multiplicities, so many times. -/
theorem mult_sides_times {n t : Nat} {p c : Nat → Int} (hp : ∀ i, i < n → Pr (p i).toNat ∧ 2 ≤ p i) {x : Nat} (hx : Pr x) : ∀ k, k ≤ n → (mult x (sideUp p c t k) : Int) - (mult x (sideDown p c t k) : Int) = sumTo p c (x : Int) k * (t : Int) ∧ 0 < sideUp p c t k ∧ 0 < sideDown p c t k
  | 0, _ => ⟨by simp [sideUp, sideDown, sumTo], Nat.one_pos, Nat.one_pos⟩
  | k + 1, h => by
    obtain ⟨ih, h1, h2⟩ := mult_sides_times (t := t) (c := c) hp hx k (by omega)
    obtain ⟨hpk, hp2⟩ := hp k (by omega)
    have hpp : 0 < (p k).toNat ^ ((c k).natAbs * t) := Nat.pow_pos (by omega)
    have hm := mult_pow hx hpk ((c k).natAbs * t)
    have hiff : (x = (p k).toNat) ↔ (p k = (x : Int)) := by omega
    have hs : sumTo p c (x : Int) (k + 1) = sumTo p c (x : Int) k + if p k = (x : Int) then c k else 0 := rfl
    by_cases hc : 0 < c k
    · have ha : (((c k).natAbs * t : Nat) : Int) = c k * (t : Int) := by rw [Int.natCast_mul, show ((c k).natAbs : Int) = c k by omega]
      rw [sideUp_pos hc, sideDown_pos hc, mult_mul hx _ _ h1 hpp, hm, hs, Int.add_mul, ← ih]
      refine ⟨?_, Nat.mul_pos h1 hpp, h2⟩
      by_cases he : x = (p k).toNat
      · rw [if_pos he, if_pos (hiff.1 he), ← ha]; omega
      · rw [if_neg he, if_neg (fun e => he (hiff.2 e)), Int.zero_mul]; omega
    · have ha : (((c k).natAbs * t : Nat) : Int) = -(c k * (t : Int)) := by rw [Int.natCast_mul, show ((c k).natAbs : Int) = -c k by omega, Int.neg_mul]
      rw [sideUp_neg hc, sideDown_neg hc, mult_mul hx _ _ h2 hpp, hm, hs, Int.add_mul, ← ih]
      refine ⟨?_, h1, Nat.mul_pos h2 hpp⟩
      by_cases he : x = (p k).toNat
      · rw [if_pos he, if_pos (hiff.1 he)]; omega
      · rw [if_neg he, if_neg (fun e => he (hiff.2 e)), Int.zero_mul]; omega
theorem mult_power {p n : Nat} (hp : Pr p) (hn : 0 < n) : ∀ m, mult p (n ^ m) = m * mult p n
  | 0 => by rw [Nat.pow_zero, mult_one hp.1, Nat.zero_mul]
  | m + 1 => by rw [Nat.pow_succ, mult_mul hp _ _ (Nat.pow_pos hn) hn, mult_power hp hn m, Nat.succ_mul]
theorem OkLog.side {d : Int} {t : List (Int × Int)} (h : OkLog d t.length (pOf t) (cOf t)) (m : Nat) {x : Nat} (hx : Pr x) : (mult x (sideUp (pOf t) (cOf t) m t.length) : Int) - (mult x (sideDown (pOf t) (cOf t) m t.length) : Int) = atL t (x : Int) * (m : Int) ∧ 0 < sideUp (pOf t) (cOf t) m t.length ∧ 0 < sideDown (pOf t) (cOf t) m t.length := by
  have hp : ∀ i, i < t.length → Pr (pOf t i).toNat ∧ 2 ≤ pOf t i := fun i hi => ⟨(h.2.2.1 i hi).2.2.2.2.2.2, (h.2.2.1 i hi).2.2.2.2.2.1⟩
  have h1 := mult_sides_times (t := m) (c := cOf t) hp hx t.length (Nat.le_refl _)
  rw [sumTo_list h.rising _ _ (Nat.le_refl _), List.take_length] at h1
  exact h1
/-- The sides of a sum. -/
theorem sides_sum {da db dx : Nat} {ta tb tx : List (Int × Int)} (ha : OkLog da ta.length (pOf ta) (cOf ta)) (hb : OkLog db tb.length (pOf tb) (cOf tb)) (hx : OkLog dx tx.length (pOf tx) (cOf tx)) (he : ∀ x, atL tx x * ((da : Int) * (db : Int)) = (atL ta x * (db : Int) + atL tb x * (da : Int)) * (dx : Int)) (m : Nat) :
    (sideUp (pOf ta) (cOf ta) m ta.length ^ (db * dx) * sideUp (pOf tb) (cOf tb) m tb.length ^ (da * dx)) * sideDown (pOf tx) (cOf tx) m tx.length ^ (da * db) = sideUp (pOf tx) (cOf tx) m tx.length ^ (da * db) * (sideDown (pOf ta) (cOf ta) m ta.length ^ (db * dx) * sideDown (pOf tb) (cOf tb) m tb.length ^ (da * dx)) := by
  have h2 : Pr 2 := ⟨by omega, fun d hd hdd => by have := Nat.mul_le_mul hd hd; omega⟩
  obtain ⟨_, a1, a2⟩ := ha.side m h2
  obtain ⟨_, b1, b2⟩ := hb.side m h2
  obtain ⟨_, x1, x2⟩ := hx.side m h2
  refine eq_of_mult _ _ (Nat.mul_pos (Nat.mul_pos (Nat.pow_pos a1) (Nat.pow_pos b1)) (Nat.pow_pos x2)) (Nat.mul_pos (Nat.pow_pos x1) (Nat.mul_pos (Nat.pow_pos a2) (Nat.pow_pos b2))) (fun q hq => ?_)
  have ea := (ha.side m hq).1
  have eb := (hb.side m hq).1
  have ex := (hx.side m hq).1
  have e := he (q : Int)
  rw [mult_mul hq _ _ (Nat.mul_pos (Nat.pow_pos a1) (Nat.pow_pos b1)) (Nat.pow_pos x2), mult_mul hq _ _ (Nat.pow_pos a1) (Nat.pow_pos b1), mult_mul hq _ _ (Nat.pow_pos x1) (Nat.mul_pos (Nat.pow_pos a2) (Nat.pow_pos b2)), mult_mul hq _ _ (Nat.pow_pos a2) (Nat.pow_pos b2), mult_power hq a1, mult_power hq b1, mult_power hq x2, mult_power hq x1, mult_power hq a2, mult_power hq b2]
  generalize mult q (sideUp (pOf ta) (cOf ta) m ta.length) = Ua at *
  generalize mult q (sideDown (pOf ta) (cOf ta) m ta.length) = Da at *
  generalize mult q (sideUp (pOf tb) (cOf tb) m tb.length) = Ub at *
  generalize mult q (sideDown (pOf tb) (cOf tb) m tb.length) = Db at *
  generalize mult q (sideUp (pOf tx) (cOf tx) m tx.length) = Ux at *
  generalize mult q (sideDown (pOf tx) (cOf tx) m tx.length) = Dx at *
  generalize atL ta (q : Int) = A at *
  generalize atL tb (q : Int) = B at *
  generalize atL tx (q : Int) = X at *
  apply Int.ofNat_inj.1
  simp only [Int.natCast_add, Int.natCast_mul]
  have hUa : (Ua : Int) = Da + A * m := by omega
  have hUb : (Ub : Int) = Db + B * m := by omega
  have hUx : (Ux : Int) = Dx + X * m := by omega
  rw [hUa, hUb, hUx]
  grind
/-- Grains of a sum are those of both, or one more. -/
theorem grains_sum {da db dx : Nat} {ta tb tx : List (Int × Int)} (ha : OkLog da ta.length (pOf ta) (cOf ta)) (hb : OkLog db tb.length (pOf tb) (cOf tb)) (hx : OkLog dx tx.length (pOf tx) (cOf tx)) (he : ∀ x, atL tx x * ((da : Int) * (db : Int)) = (atL ta x * (db : Int) + atL tb x * (da : Int)) * (dx : Int)) {za zb zx : Int}
    (la : IsLog za (sideUp (pOf ta) (cOf ta) 32 ta.length) (sideDown (pOf ta) (cOf ta) 32 ta.length)) (lb : IsLog zb (sideUp (pOf tb) (cOf tb) 32 tb.length) (sideDown (pOf tb) (cOf tb) 32 tb.length)) (lx : IsLog zx (sideUp (pOf tx) (cOf tx) 32 tx.length) (sideDown (pOf tx) (cOf tx) 32 tx.length)) :
    zx / (dx : Int) = za / (da : Int) + zb / (db : Int) ∨ zx / (dx : Int) = za / (da : Int) + zb / (db : Int) + 1 := by
  have h2 : Pr 2 := ⟨by omega, fun d hd hdd => by have := Nat.mul_le_mul hd hd; omega⟩
  obtain ⟨_, _, a2⟩ := ha.side 32 h2
  obtain ⟨_, _, b2⟩ := hb.side 32 h2
  obtain ⟨_, _, x2⟩ := hx.side 32 h2
  have hid := sides_sum ha hb hx he 32
  have pa : 0 < da := by have := ha.1; omega
  have pb : 0 < db := by have := hb.1; omega
  have px : 0 < dx := by have := hx.1; omega
  obtain ⟨a3, a4⟩ := isLog_floor (d := (da : Int)) (by omega) la rfl
  obtain ⟨b3, b4⟩ := isLog_floor (d := (db : Int)) (by omega) lb rfl
  obtain ⟨x3, x4⟩ := isLog_floor (d := (dx : Int)) (by omega) lx rfl
  generalize za / (da : Int) = i at *
  generalize zb / (db : Int) = j at *
  generalize zx / (dx : Int) = k at *
  have hsame := fun q => le2_same (k := q) (Nat.mul_pos (Nat.pow_pos (n := db * dx) a2) (Nat.pow_pos (n := da * dx) b2)) (Nat.pow_pos (n := da * db) x2) hid
  have l1 := (hsame _).1 (le2_mul (le2_pow a3 (db * dx)) (le2_pow b3 (da * dx)))
  have l2 := fun h => not_le2_mul (not_le2_pow a4 (Nat.mul_pos pb px)) (not_le2_pow b4 (Nat.mul_pos pa px)) ((hsame _).2 h)
  have l3 := le2_pow x3 (da * db)
  have l4 := not_le2_pow x4 (Nat.mul_pos pa pb)
  have hM : (0 : Int) < (da : Int) * (db : Int) * (dx : Int) := Int.mul_pos (Int.mul_pos (by omega) (by omega)) (by omega)
  have q1 : i * (da : Int) * ((db * dx : Nat) : Int) + j * (db : Int) * ((da * dx : Nat) : Int) = (i + j) * ((da : Int) * (db : Int) * (dx : Int)) := by rw [Int.natCast_mul, Int.natCast_mul]; grind
  have q2 : (i + 1) * (da : Int) * ((db * dx : Nat) : Int) + (j + 1) * (db : Int) * ((da * dx : Nat) : Int) = (i + j + 2) * ((da : Int) * (db : Int) * (dx : Int)) := by rw [Int.natCast_mul, Int.natCast_mul]; grind
  have q3 : k * (dx : Int) * ((da * db : Nat) : Int) = k * ((da : Int) * (db : Int) * (dx : Int)) := by rw [Int.natCast_mul]; grind
  have q4 : (k + 1) * (dx : Int) * ((da * db : Nat) : Int) = (k + 1) * ((da : Int) * (db : Int) * (dx : Int)) := by rw [Int.natCast_mul]; grind
  rw [q1] at l1
  rw [q2] at l2
  rw [q3] at l3
  rw [q4] at l4
  generalize (da : Int) * (db : Int) * (dx : Int) = M at *
  have c1 : i + j < k + 1 := by
    rcases Int.lt_or_le (i + j) (k + 1) with h | h
    · exact h
    · exact absurd (le2_anti l1 (Int.mul_le_mul_of_nonneg_right h (by omega))) l4
  have c2 : k < i + j + 2 := by
    rcases Int.lt_or_le k (i + j + 2) with h | h
    · exact h
    · exact absurd (le2_anti l3 (Int.mul_le_mul_of_nonneg_right h (by omega))) l2
  omega
/-- An opposite's sides. -/
theorem sides_back {n t : Nat} {p c : Nat → Int} (hn : ∀ i, i < n → c i ≠ 0) : ∀ k, k ≤ n → sideUp p (fun i => -c i) t k = sideDown p c t k ∧ sideDown p (fun i => -c i) t k = sideUp p c t k
  | 0, _ => ⟨rfl, rfl⟩
  | k + 1, h => by
    obtain ⟨h1, h2⟩ := sides_back (t := t) (p := p) hn k (by omega)
    have h0 := hn k (by omega)
    by_cases hc : 0 < c k
    · have hc' : ¬ 0 < (fun i => -c i) k := by show ¬ 0 < -c k; omega
      rw [sideUp_neg (p := p) (c := fun i => -c i) (t := t) (k := k) hc', sideDown_neg (p := p) (c := fun i => -c i) (t := t) (k := k) hc', sideUp_pos hc, sideDown_pos hc, h1, h2]
      exact ⟨rfl, by show _ * _ ^ ((-c k).natAbs * t) = _; rw [Int.natAbs_neg]⟩
    · have hc' : 0 < (fun i => -c i) k := by show 0 < -c k; omega
      rw [sideUp_pos (p := p) (c := fun i => -c i) (t := t) (k := k) hc', sideDown_pos (p := p) (c := fun i => -c i) (t := t) (k := k) hc', sideUp_neg hc, sideDown_neg hc, h1, h2]
      exact ⟨by show _ * _ ^ ((-c k).natAbs * t) = _; rw [Int.natAbs_neg], rfl⟩
theorem cost_back (p c : Nat → Int) : ∀ k, cost p (fun i => -c i) k = cost p c k
  | 0 => rfl
  | k + 1 => by show cost p (fun i => -c i) k + (-c k).natAbs * _ = cost p c k + _; rw [cost_back p c k, Int.natAbs_neg]
end Go.Proofs.YtklhfagcembigaaGreatDoor

/- GIBBS' inequality of whole numbers: products of powers, where the sums are given. -/
namespace Go.Proofs.YtklhfagcembigaaGreatDoor
def sumA (f : Nat → Nat) : Nat → Nat
  | 0 => 0
  | n + 1 => sumA f n + f n
def prodA (f : Nat → Nat) : Nat → Nat
  | 0 => 1
  | n + 1 => prodA f n * f n
theorem sq_ge (x y : Int) : 0 ≤ (x - y) * (x - y) := by
  rcases Int.le_total x y with h | h
  · have := Int.mul_nonneg (Int.sub_nonneg.2 h) (Int.sub_nonneg.2 h)
    grind
  · exact Int.mul_nonneg (Int.sub_nonneg.2 h) (Int.sub_nonneg.2 h)
theorem sq_gt {x y : Int} (hne : x ≠ y) : 0 < (x - y) * (x - y) := by
  rcases Int.lt_or_gt_of_ne hne with h | h
  · have := Int.mul_pos (Int.sub_pos.2 h) (Int.sub_pos.2 h)
    grind
  · exact Int.mul_pos (Int.sub_pos.2 h) (Int.sub_pos.2 h)
/-- BERNOULLI's inequality of two numbers. -/
theorem bern {u v : Int} (hu : 0 ≤ u) (hv : 0 ≤ v) : ∀ n : Nat, ((n : Int) + 1) * u ^ n * v ≤ v ^ (n + 1) + n * u ^ (n + 1)
  | 0 => by simp [Int.pow_succ]
  | n + 1 => by
    have h := Int.mul_le_mul_of_nonneg_right (bern hu hv n) hv
    have hp := Int.mul_nonneg (Int.pow_nonneg hu : 0 ≤ u ^ n) (Int.mul_nonneg (by omega : 0 ≤ (n : Int) + 1) (sq_ge v u))
    have e1 : u ^ (n + 1 + 1) = u ^ n * u * u := by rw [Int.pow_succ, Int.pow_succ]
    have e2 : v ^ (n + 1 + 1) = v ^ (n + 1) * v := by rw [Int.pow_succ]
    have e3 : u ^ (n + 1) = u ^ n * u := by rw [Int.pow_succ]
    rw [e1, e2, e3]
    rw [e3] at h
    generalize u ^ n = U at *
    generalize v ^ (n + 1) = V at *
    push_cast
    grind
theorem bern_lt {u v : Int} (hu : 0 < u) (hv : 0 ≤ v) (hne : u ≠ v) (n : Nat) : ((n : Int) + 1 + 1) * u ^ (n + 1) * v < v ^ (n + 1 + 1) + (n + 1) * u ^ (n + 1 + 1) := by
  have h := Int.mul_le_mul_of_nonneg_right (bern (Int.le_of_lt hu) hv n) hv
  have hp := Int.mul_pos (Int.pow_pos hu : 0 < u ^ n) (Int.mul_pos (by omega : 0 < (n : Int) + 1) (sq_gt (Ne.symm hne)))
  have e1 : u ^ (n + 1 + 1) = u ^ n * u * u := by rw [Int.pow_succ, Int.pow_succ]
  have e2 : v ^ (n + 1 + 1) = v ^ (n + 1) * v := by rw [Int.pow_succ]
  have e3 : u ^ (n + 1) = u ^ n * u := by rw [Int.pow_succ]
  rw [e1, e2, e3]
  rw [e3] at h
  generalize u ^ n = U at *
  generalize v ^ (n + 1) = V at *
  grind

/-- A number more: the power of the mean. -/
theorem step_le (n S Y : Nat) (hn : 0 < n) : S ^ n * (n + 1) ^ (n + 1) * Y ≤ (S + Y) ^ (n + 1) * n ^ n := by
  have h := bern (u := ((S * (n + 1) : Nat) : Int)) (v := (((S + Y) * n : Nat) : Int)) (by omega) (by omega) n
  have h1 : (S * (n + 1)) ^ n * ((n + 1) * n * Y) ≤ ((S + Y) * n) ^ (n + 1) := by
    refine Int.ofNat_le.1 ?_
    have e : ((S * (n + 1) : Nat) : Int) ^ (n + 1) = ((S * (n + 1) : Nat) : Int) ^ n * ((S : Int) * (n + 1)) := by rw [Int.pow_succ]; simp
    rw [e] at h
    rw [Int.natCast_mul, Int.natCast_pow, Int.natCast_pow]
    generalize ((S * (n + 1) : Nat) : Int) ^ n = U at *
    generalize (((S + Y) * n : Nat) : Int) ^ (n + 1) = V at *
    push_cast at h ⊢
    grind
  rw [Nat.mul_pow, Nat.mul_pow, Nat.pow_succ n n] at h1
  rw [Nat.pow_succ (n + 1) n]
  refine Nat.le_of_mul_le_mul_right ?_ hn
  generalize S ^ n = a at *
  generalize (n + 1) ^ n = b at *
  generalize n ^ n = c at *
  generalize (S + Y) ^ (n + 1) = d at *
  grind
theorem step_lt (n S Y : Nat) (hS : 0 < S) (hne : S ≠ (n + 1) * Y) : S ^ (n + 1) * (n + 1 + 1) ^ (n + 1 + 1) * Y < (S + Y) ^ (n + 1 + 1) * (n + 1) ^ (n + 1) := by
  have h := bern_lt (u := ((S * (n + 1 + 1) : Nat) : Int)) (v := (((S + Y) * (n + 1) : Nat) : Int)) (by have := Nat.mul_pos hS (by omega : 0 < n + 1 + 1); omega) (by omega) (fun e => hne (by
    have e := Int.ofNat_inj.1 e
    grind)) n
  have h1 : (S * (n + 1 + 1)) ^ (n + 1) * ((n + 1 + 1) * (n + 1) * Y) < ((S + Y) * (n + 1)) ^ (n + 1 + 1) := by
    refine Int.ofNat_lt.1 ?_
    have e : ((S * (n + 1 + 1) : Nat) : Int) ^ (n + 1 + 1) = ((S * (n + 1 + 1) : Nat) : Int) ^ (n + 1) * ((S : Int) * (n + 1 + 1)) := by rw [Int.pow_succ]; simp
    rw [e] at h
    rw [Int.natCast_mul, Int.natCast_pow, Int.natCast_pow]
    generalize ((S * (n + 1 + 1) : Nat) : Int) ^ (n + 1) = U at *
    generalize (((S + Y) * (n + 1) : Nat) : Int) ^ (n + 1 + 1) = V at *
    push_cast at h ⊢
    grind
  rw [Nat.mul_pow, Nat.mul_pow, Nat.pow_succ (n + 1) (n + 1)] at h1
  rw [Nat.pow_succ (n + 1 + 1) (n + 1)]
  refine Nat.lt_of_mul_lt_mul_right (a := n + 1) ?_
  generalize S ^ (n + 1) = a at *
  generalize (n + 1 + 1) ^ (n + 1) = b at *
  generalize (n + 1) ^ (n + 1) = c at *
  generalize (S + Y) ^ (n + 1 + 1) = d at *
  grind
theorem self_pos (n : Nat) : 0 < n ^ n := by
  rcases Nat.eq_zero_or_pos n with h | h
  · subst h; decide
  · exact Nat.pow_pos h
/-- A copies of X and a of Y: their product is at most the power of their mean. -/
theorem two_le (A X Y : Nat) : ∀ a : Nat, (A + a) ^ (A + a) * (X ^ A * Y ^ a) ≤ (A * X + a * Y) ^ (A + a)
  | 0 => by simp [Nat.mul_pow]
  | a + 1 => by
    have ih := two_le A X Y a
    rcases Nat.eq_zero_or_pos (A + a) with h0 | h0
    · obtain rfl : A = 0 := by omega
      obtain rfl : a = 0 := by omega
      simp
    · have h := step_le (A + a) (A * X + a * Y) Y h0
      have e1 : A * X + (a + 1) * Y = A * X + a * Y + Y := by grind
      rw [e1, ← Nat.add_assoc, Nat.pow_succ Y a]
      refine Nat.le_of_mul_le_mul_right (c := (A + a) ^ (A + a)) ?_ (self_pos _)
      refine Nat.le_trans ?_ h
      have h2 := Nat.mul_le_mul_right ((A + a + 1) ^ (A + a + 1) * Y) ih
      generalize (A + a + 1) ^ (A + a + 1) = p at *
      generalize (A + a) ^ (A + a) = r at *
      generalize (A * X + a * Y) ^ (A + a) = t at *
      generalize X ^ A = x at *
      generalize Y ^ a = y at *
      grind
theorem two_lt (A X Y : Nat) (hA : 0 < A) (hne : X ≠ Y) : ∀ a : Nat, (A + (a + 1)) ^ (A + (a + 1)) * (X ^ A * Y ^ (a + 1)) < (A * X + (a + 1) * Y) ^ (A + (a + 1)) := fun a => by
  rcases Nat.eq_zero_or_pos Y with hy | hy
  · subst hy
    have : 0 < A * X := Nat.mul_pos hA (by omega)
    simp only [Nat.pow_succ, Nat.mul_zero, Nat.add_zero]
    exact Nat.pow_pos this
  rcases Nat.eq_zero_or_pos X with hx | hx
  · subst hx
    rw [Nat.zero_pow hA]
    have : 0 < (a + 1) * Y := Nat.mul_pos (by omega) hy
    simp only [Nat.mul_zero, Nat.zero_mul, Nat.zero_add]
    exact Nat.pow_pos this
  induction a with
  | zero =>
    obtain ⟨n, rfl⟩ : ∃ n, A = n + 1 := ⟨A - 1, by omega⟩
    have h := step_lt n ((n + 1) * X) Y (Nat.mul_pos hA hx) (fun e => hne (Nat.eq_of_mul_eq_mul_left hA e))
    have e1 : (n + 1) * X + (0 + 1) * Y = (n + 1) * X + Y := by omega
    rw [e1, Nat.zero_add]
    refine Nat.lt_of_mul_lt_mul_right (a := (n + 1) ^ (n + 1)) ?_
    refine Nat.lt_of_le_of_lt ?_ h
    rw [Nat.mul_pow, Nat.pow_one]
    generalize (n + 1) ^ (n + 1) = r at *
    generalize (n + 1 + 1) ^ (n + 1 + 1) = p at *
    generalize X ^ (n + 1) = x at *
    grind
  | succ a ih =>
    have h := step_le (A + (a + 1)) (A * X + (a + 1) * Y) Y (by omega)
    have e1 : A * X + (a + 1 + 1) * Y = A * X + (a + 1) * Y + Y := by grind
    rw [e1, ← Nat.add_assoc A (a + 1) 1, Nat.pow_succ Y (a + 1)]
    refine Nat.lt_of_mul_lt_mul_right (a := (A + (a + 1)) ^ (A + (a + 1))) ?_
    refine Nat.lt_of_lt_of_le ?_ h
    have h2 := Nat.mul_lt_mul_of_pos_right ih (Nat.mul_pos (self_pos (A + (a + 1) + 1)) hy)
    generalize (A + (a + 1) + 1) ^ (A + (a + 1) + 1) = p at *
    generalize (A + (a + 1)) ^ (A + (a + 1)) = r at *
    generalize (A * X + (a + 1) * Y) ^ (A + (a + 1)) = t at *
    generalize X ^ A = x at *
    generalize Y ^ (a + 1) = y at *
    grind

/-- Two terms of the logarithms' sum. -/
theorem sum2_le (A a B b : Nat) : (A + a) ^ (A + a) * (B ^ A * b ^ a) ≤ (B + b) ^ (A + a) * (A ^ A * a ^ a) := by
  rcases Nat.eq_zero_or_pos A with hA | hA
  · subst hA
    have := Nat.pow_le_pow_left (show b ≤ B + b by omega) a
    simp only [Nat.zero_add, Nat.pow_zero, Nat.one_mul]
    rw [Nat.mul_comm]
    exact Nat.mul_le_mul_right _ this
  rcases Nat.eq_zero_or_pos a with ha | ha
  · subst ha
    have := Nat.pow_le_pow_left (show B ≤ B + b by omega) A
    simp only [Nat.add_zero, Nat.pow_zero, Nat.mul_one]
    rw [Nat.mul_comm]
    exact Nat.mul_le_mul_right _ this
  have h := two_le A (B * a) (b * A) a
  have e1 : A * (B * a) + a * (b * A) = (A * a) * (B + b) := by grind
  rw [e1, Nat.mul_pow, Nat.mul_pow, Nat.mul_pow (A * a), Nat.mul_pow A a] at h
  have e2 : A ^ (A + a) = A ^ A * A ^ a := Nat.pow_add ..
  have e3 : a ^ (A + a) = a ^ A * a ^ a := Nat.pow_add ..
  rw [e2, e3] at h
  refine Nat.le_of_mul_le_mul_right (c := A ^ a * a ^ A) ?_ (Nat.mul_pos (Nat.pow_pos hA) (Nat.pow_pos ha))
  generalize A ^ a = t1 at *
  generalize a ^ A = t2 at *
  generalize (A + a) ^ (A + a) = t3 at *
  generalize (B + b) ^ (A + a) = t4 at *
  generalize A ^ A = t5 at *
  generalize a ^ a = t6 at *
  generalize B ^ A = t7 at *
  generalize b ^ a = t8 at *
  grind
theorem sum2_lt {A a B b : Nat} (hA : 0 < A) (hne : B * a ≠ b * A) : (A + a) ^ (A + a) * (B ^ A * b ^ a) < (B + b) ^ (A + a) * (A ^ A * a ^ a) := by
  rcases Nat.eq_zero_or_pos a with ha | ha
  · subst ha
    have hb : 0 < b := Nat.pos_of_ne_zero fun e => hne (by subst e; simp)
    have := Nat.pow_lt_pow_left (show B < B + b by omega) (Nat.pos_iff_ne_zero.1 hA)
    simp only [Nat.add_zero, Nat.pow_zero, Nat.mul_one]
    rw [Nat.mul_comm]
    exact Nat.mul_lt_mul_of_pos_right this (Nat.pow_pos hA)
  obtain ⟨c, rfl⟩ : ∃ c, a = c + 1 := ⟨a - 1, by omega⟩
  have h := two_lt A (B * (c + 1)) (b * A) hA hne c
  have e1 : A * (B * (c + 1)) + (c + 1) * (b * A) = (A * (c + 1)) * (B + b) := by grind
  rw [e1, Nat.mul_pow, Nat.mul_pow, Nat.mul_pow (A * (c + 1)), Nat.mul_pow A (c + 1)] at h
  have e2 : A ^ (A + (c + 1)) = A ^ A * A ^ (c + 1) := Nat.pow_add ..
  have e3 : (c + 1) ^ (A + (c + 1)) = (c + 1) ^ A * (c + 1) ^ (c + 1) := Nat.pow_add ..
  rw [e2, e3] at h
  refine Nat.lt_of_mul_lt_mul_right (a := A ^ (c + 1) * (c + 1) ^ A) ?_
  generalize A ^ (c + 1) = t1 at *
  generalize (c + 1) ^ A = t2 at *
  generalize (A + (c + 1)) ^ (A + (c + 1)) = t3 at *
  generalize (B + b) ^ (A + (c + 1)) = t4 at *
  generalize A ^ A = t5 at *
  generalize (c + 1) ^ (c + 1) = t6 at *
  generalize B ^ A = t7 at *
  generalize b ^ (c + 1) = t8 at *
  grind
theorem prod_pos {f : Nat → Nat} : ∀ {n : Nat}, (∀ i, i < n → 0 < f i) → 0 < prodA f n
  | 0, _ => by simp [prodA]
  | n + 1, h => Nat.mul_pos (prod_pos fun i hi => h i (by omega)) (h n (by omega))
theorem sum_zero {f : Nat → Nat} : ∀ {n : Nat}, sumA f n = 0 → ∀ i, i < n → f i = 0
  | 0, _, i, hi => by omega
  | n + 1, h, i, hi => by
    simp only [sumA] at h
    rcases Nat.lt_or_ge i n with h1 | h1
    · exact sum_zero (n := n) (by omega) i h1
    · obtain rfl : i = n := by omega
      omega
/-- The sum of logarithms (GIBBS). -/
theorem sums_le (a b : Nat → Nat) : ∀ n : Nat, sumA a n ^ sumA a n * prodA (fun i => b i ^ a i) n ≤ sumA b n ^ sumA a n * prodA (fun i => a i ^ a i) n
  | 0 => by simp [sumA, prodA]
  | n + 1 => by
    have ih := sums_le a b n
    have h2 := sum2_le (sumA a n) (a n) (sumA b n) (b n)
    simp only [sumA, prodA]
    refine Nat.le_of_mul_le_mul_right (c := sumA a n ^ sumA a n) ?_ (self_pos _)
    have h3 := Nat.mul_le_mul_right ((sumA a n + a n) ^ (sumA a n + a n) * b n ^ a n) ih
    have h4 := Nat.mul_le_mul_right (prodA (fun i => a i ^ a i) n) h2
    generalize (sumA a n + a n) ^ (sumA a n + a n) = t1 at *
    generalize (sumA b n + b n) ^ (sumA a n + a n) = t2 at *
    generalize sumA a n ^ sumA a n = t3 at *
    generalize sumA b n ^ sumA a n = t4 at *
    generalize prodA (fun i => a i ^ a i) n = t5 at *
    generalize prodA (fun i => b i ^ a i) n = t6 at *
    generalize b n ^ a n = t7 at *
    generalize a n ^ a n = t8 at *
    grind
theorem sums_eq {a b : Nat → Nat} : ∀ {n : Nat}, (∀ i, i < n → 0 < a i → 0 < b i) → sumA a n ^ sumA a n * prodA (fun i => b i ^ a i) n = sumA b n ^ sumA a n * prodA (fun i => a i ^ a i) n → ∀ i, i < n → a i * sumA b n = b i * sumA a n
  | 0, _, _, i, hi => by omega
  | n + 1, hs, h, i, hi => by
    have ih := sums_le a b n
    have h2 := sum2_le (sumA a n) (a n) (sumA b n) (b n)
    have hb : 0 < b n ^ a n := by
      rcases Nat.eq_zero_or_pos (a n) with h0 | h0
      · rw [h0]; simp
      · exact Nat.pow_pos (hs n (by omega) h0)
    have hR : 0 < prodA (fun i => a i ^ a i) n := prod_pos fun i _ => self_pos _
    have hA' := self_pos (sumA a n + a n)
    have hA0 := self_pos (sumA a n)
    have hall : sumA a n ^ sumA a n * prodA (fun i => b i ^ a i) n = sumA b n ^ sumA a n * prodA (fun i => a i ^ a i) n ∧ (sumA a n + a n) ^ (sumA a n + a n) * (sumA b n ^ sumA a n * b n ^ a n) = (sumA b n + b n) ^ (sumA a n + a n) * (sumA a n ^ sumA a n * a n ^ a n) := by
      simp only [sumA, prodA] at h
      have h3 := Nat.mul_le_mul_right ((sumA a n + a n) ^ (sumA a n + a n) * b n ^ a n) ih
      have h4 := Nat.mul_le_mul_right (prodA (fun i => a i ^ a i) n) h2
      have h5 := congrArg (· * sumA a n ^ sumA a n) h
      have hp := Nat.mul_pos hA' hb
      generalize (sumA a n + a n) ^ (sumA a n + a n) = t1 at *
      generalize (sumA b n + b n) ^ (sumA a n + a n) = t2 at *
      generalize sumA a n ^ sumA a n = t3 at *
      generalize sumA b n ^ sumA a n = t4 at *
      generalize prodA (fun i => a i ^ a i) n = t5 at *
      generalize prodA (fun i => b i ^ a i) n = t6 at *
      generalize b n ^ a n = t7 at *
      generalize a n ^ a n = t8 at *
      have e1 : t3 * t6 * (t1 * t7) = t4 * t5 * (t1 * t7) := by grind
      have e2 : t1 * (t4 * t7) * t5 = t2 * (t3 * t8) * t5 := by grind
      exact ⟨Nat.eq_of_mul_eq_mul_right hp e1, Nat.eq_of_mul_eq_mul_right hR e2⟩
    have hI := sums_eq (n := n) (fun i hi => hs i (by omega)) hall.1
    simp only [sumA]
    rcases Nat.eq_zero_or_pos (sumA a n) with h0 | h0
    · have hz := sum_zero h0
      have h6 := hall.2
      rw [h0] at h6 ⊢
      simp only [Nat.zero_add, Nat.pow_zero, Nat.one_mul] at h6 ⊢
      have h7 : b n ^ a n = (sumA b n + b n) ^ a n := by
        rw [Nat.mul_comm] at h6
        exact Nat.eq_of_mul_eq_mul_right (self_pos _) h6
      have h8 : a n = 0 ∨ sumA b n = 0 := by
        rcases Nat.eq_zero_or_pos (a n) with h1 | h1
        · exact Or.inl h1
        · refine Or.inr ?_
          rcases Nat.eq_zero_or_pos (sumA b n) with h9 | h9
          · exact h9
          · have := Nat.pow_lt_pow_left (show b n < sumA b n + b n by omega) (Nat.pos_iff_ne_zero.1 h1)
            omega
      rcases Nat.lt_or_ge i n with h1 | h1
      · rw [hz i h1]
        rcases h8 with h8 | h8
        · rw [h8]; simp
        · rw [sum_zero h8 i h1]; simp
      · obtain rfl : i = n := by omega
        rcases h8 with h8 | h8
        · rw [h8]; simp
        · rw [h8, Nat.zero_add, Nat.mul_comm]
    · have he : sumA b n * a n = b n * sumA a n := by
        rcases Nat.decEq (sumA b n * a n) (b n * sumA a n) with h1 | h1
        · have := sum2_lt h0 h1
          omega
        · exact h1
      rcases Nat.lt_or_ge i n with h1 | h1
      · have hi1 := hI i h1
        have h9 : a i * b n = b i * a n := by
          refine Nat.eq_of_mul_eq_mul_right h0 ?_
          grind
        grind
      · obtain rfl : i = n := by omega
        grind
end Go.Proofs.YtklhfagcembigaaGreatDoor
