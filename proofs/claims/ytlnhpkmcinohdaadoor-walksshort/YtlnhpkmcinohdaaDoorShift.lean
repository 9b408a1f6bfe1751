/- The program's Bits and Shift of numbers without a bound. -/
import Derived.Test.YtlnhpkmcinohdaaDoorGrainMath
namespace Go.Proofs.YtlnhpkmcinohdaaDoor
open Go.RowKit

theorem ownsRow_below {w w' : World} {B e size n : Nat} {v : Value} {xs : List Value} (h : w.ownsRow B e size v n xs) (hb : Below w.heap.size w w') : w'.ownsRow B e size v n xs := by
  obtain ⟨hl, hr⟩ := h
  rcases hr with h | ⟨g, cap, cur, hv, hg, hh, r⟩
  · exact ⟨hl, Or.inl h⟩
  · exact ⟨hl, Or.inr ⟨g, cap, cur, hv, hg, by rw [hb.block g (heap_lt hh)]; exact hh, r⟩⟩

/-- make with a length and a greater capacity: noughts. -/
theorem wpList_make_words (w : World) {ops : Array Oper} {rest : List Oper} {o : Oper} {a : Act} {Q : Exit → Act → World → Prop}
    (hg : o.guard = none) (l c : Operand) (t : TypeId) (hop : o.op = Op.makeSlice t l c)
    (i : TypeInfo) (h1 : Tryd.prog.underlying t = some (.slice 82)) (h2 : Tryd.prog.info? 82 = some i ∧ i.zero = some (.int .u64 0) ∧ i.size = 1 ∧ i.bytes = 8)
    (kl kc : IntKind) (L C : Int) (m n : Nat) (hl : a.eval l = .int kl L) (hc : a.eval c = .int kc C) (hL : L = (m : Int)) (hC : C = (n : Int)) (hmn : m ≤ n) (hn : n ≤ 100000000)
    (hK : ∀ w', w'.ownsRow w.heap.size 82 1 (.slice (some ⟨w.heap.size, 0, none⟩) m n) (List.replicate m 0).length (wordCells (List.replicate m 0)) → Below w.heap.size w w' → wpList Tryd.prog ops Q rest (a.put o.dst (.slice (some ⟨w.heap.size, 0, none⟩) m n)) w') :
    wpList Tryd.prog ops Q (o :: rest) a w := by
  refine wpList_plain hg fun K hK' => ?_
  obtain ⟨hi, hz, hs, hby⟩ := h2
  have hr := run_make (P := Tryd.prog) w t 82 i (.int .u64 0) h1 hi hz kl kc (m : Int) (n : Int) (by omega) (by omega) (by rw [hby]; omega) (by omega)
  simp only [Int.toNat_natCast, hs, Nat.mul_one] at hr
  subst hL hC
  unfold Oper.wp
  simp [execOp, hop, hl, hc, hr, Result.andThen]
  refine hK' _ _ (hK _ ⟨by simp [wordCells], Or.inr ⟨w.heap.size, n, madeCells (Value.int .u64 0).cells n, by simp, Nat.le_refl _, by show (w.alloc _).heap[w.heap.size]? = some _; unfold World.alloc; simp, by simpa using hmn, by unfold maxLen; omega, by rw [size_madeCells]; omega, ?_⟩⟩ ((Below.refl _ _).alloc (Nat.le_refl _) _))
  refine List.ext_getElem? fun j => ?_
  simp only [List.length_replicate, Nat.mul_one]
  rcases Nat.lt_or_ge j m with hj | hj
  · rw [List.getElem?_take_of_lt hj]
    simp [wordCells, madeCells, Value.cells, hj, show j < n by omega, Nat.mod_one]
  · rw [List.getElem?_eq_none (by simp [madeCells]; omega), List.getElem?_eq_none (by simp [wordCells]; omega)]

set_option maxRecDepth 10000 in
set_option maxHeartbeats 1000000 in
theorem Bits_any (u : Value) (n k : Nat) (w : World) (h : NatAt w u n) (hn0 : 0 < n) (hk : n < 18446744073709551616 ^ k) (hk6 : k ≤ 1000000) :
    Calls Tryd.prog 52 #[u] w fun e w' => e = .returned (.int .i64 (bitLen n : Nat)) ∧ w' = w := by
  obtain ⟨x, hx1, hx2, rfl, hx⟩ := h
  have hlen := wlen_le_of_lt hx2 hk
  rcases hx with ⟨ad, cap, rfl, rfl⟩ | ⟨b, o, cap, rfl, h1, h2, h3⟩
  · simp [wv] at hn0
  · obtain ⟨m, hm⟩ : ∃ m, x.length = m + 1 := ⟨x.length - 1, by omega⟩
    have hb := bits_words hx1 hx2 hm
    have hc := h3 m (by omega)
    have hd := hx1 m (by omega)
    have h64 : bitLen (x.getD m 0) ≤ 64 := bitLen_le_of_lt (by have := hd; rw [show (18446744073709551616 : Nat) = 2 ^ 64 by decide] at this; exact this)
    rw [hb, hm]
    have hl64 := Len64_any (x.getD m 0) w hd
    generalize x.getD m 0 = d at hc hd hl64 h64
    clear hb h3 hx1 hx2 hk hn0 h1 h2
    have hm6 : m + 1 ≤ 1000000 := by omega
    clear hm hlen
    have i0 : (0 : Int) ≤ (m : Int) := by omega
    go_enter Tryd.func52, Tryd.ntmps52
    go_wp2_with fail
    refine hl64.mono ?_
    clear hl64
    rintro e w1 ⟨rfl, hw⟩
    go_wp2_with fail
    go_ret
    exact ⟨ret_int (by omega), rfl⟩

theorem noEnd_join {l r : List Nat} (h : NoEnd r) (hp : 0 < r.length) : NoEnd (l ++ r) := fun i hi => by
  rw [List.length_append] at hi
  have := h (i - l.length) (by omega)
  rw [List.getD_eq_getElem?_getD] at this ⊢
  rw [List.getElem?_append_right (by omega)]
  exact this
theorem wrd_join {l r : List Nat} (hl : Wrd l) (hr : Wrd r) : Wrd (l ++ r) := fun i hi => by
  rw [List.length_append] at hi
  rcases Nat.lt_or_ge i l.length with h' | h'
  · rw [wgetD_append_left h']; exact hl i h'
  · have := hr (i - l.length) (by omega)
    rw [List.getD_eq_getElem?_getD] at this ⊢
    rw [List.getElem?_append_right (by omega)]
    exact this
theorem wrd_zeros (m : Nat) : Wrd (List.replicate m 0) := fun i hi => by
  rw [List.getD_eq_getElem?_getD]
  rw [List.length_replicate] at hi
  simp [hi]

theorem shl_word {r : Nat} (h : r < 64) : IntKind.u64.wrap (2 ^ r) = ((2 ^ r : Nat) : Int) ∧ 2 ^ r < 18446744073709551616 := by
  have h1 : 2 ^ r < 2 ^ 64 := Nat.pow_lt_pow_right (by decide) h
  have h2 : (2 : Nat) ^ 64 = 18446744073709551616 := by decide
  rw [h2] at h1
  have h3 : ((2 : Int) ^ r) = ((2 ^ r : Nat) : Int) := by simp
  refine ⟨?_, h1⟩
  rw [h3, IntKind.wrap_u64]
  generalize 2 ^ r = z at h1
  omega
theorem wordCells_join (l r : List Nat) : wordCells (l ++ r) = wordCells l ++ wordCells r := by simp [wordCells]
theorem wordCells_length (l : List Nat) : (wordCells l).length = l.length := by simp [wordCells]
theorem wordCells_news {w : World} {b o : Nat} {l : List Nat} (h : ∀ i, i < l.length → w.cell? ⟨b, o + i, none⟩ = some (.int .u64 ((l.getD i 0 : Nat) : Int))) (j : Nat) (u : Value) (hu : (wordCells l)[j]? = some u) : w.cell? ((⟨b, o, none⟩ : Addr).add j) = some u := by
  have hj : j < l.length := by
    rcases Nat.lt_or_ge j l.length with h' | h'
    · exact h'
    · rw [List.getElem?_eq_none (by rw [wordCells_length]; omega)] at hu; cases hu
  rw [add_plain, h j hj, ← hu]
  simp [wordCells, hj]
theorem wordCells_one (l : List Nat) (u : Value) (hu : u ∈ wordCells l) : u.oneCell' = true := by
  simp only [wordCells, List.mem_map] at hu
  obtain ⟨d, _, rfl⟩ := hu
  rfl

set_option maxRecDepth 10000 in
set_option maxHeartbeats 1000000 in
theorem Shift_any (u : Value) (n s k : Nat) (w : World) (h : NatAt w u n) (hn0 : 0 < n) (hk : n < 18446744073709551616 ^ k) (hk6 : k ≤ 1000000) (hs : s ≤ 1000000) :
    Calls Tryd.prog 53 #[u, .int .i64 s] w fun e w' => ∃ v, e = .returned v ∧ NatAt w' v (n * 2 ^ s) ∧ Below w.heap.size w w' := by
  obtain ⟨i0, hi, hz0, hz1, hz2⟩ := info_parts Tryd.infoWord
  have HINF : Hid (Tryd.prog.info? 82 = some i0 ∧ i0.zero = some (.int .u64 0) ∧ i0.size = 1 ∧ i0.bytes = 8) := ⟨hi, hz0, hz1, hz2⟩
  clear hi hz0 hz1 hz2
  obtain ⟨x, hx1, hx2, hxv, hx⟩ := h
  have hlen := wlen_le_of_lt hx2 (by rw [hxv]; exact hk)
  have hpos : 0 < x.length := by
    rcases Nat.eq_zero_or_pos x.length with h0 | h0
    · rw [List.eq_nil_of_length_eq_zero h0] at hxv
      simp [wv] at hxv
      omega
    · exact h0
  obtain ⟨ad, cap, rfl⟩ := hx.form
  have HN := Hid.mk' (show NatAt w (.slice ad x.length cap) n from ⟨x, hx1, hx2, hxv, hx⟩)
  have HK := Hid.mk' hk
  clear hx1 hx2 hxv hx hk
  have hlz : ((x.length : Int) == 0) = false := by rw [beq_eq_false_iff_ne]; omega
  go_enter Tryd.func53, Tryd.ntmps53
  go_wp2_with (at_make; go_must (refine wpList_make_words _ rfl _ _ _ rfl i0 Tryd.underlying68 HINF.out _ _ _ _ (s / 64) (s / 64 + x.length + 1) rfl rfl (by omega) (by omega) (by omega) (by omega) ?_; intro w1 hown hbel; have HO := Hid.mk' hown; have HB1 := Hid.mk' hbel; clear hown hbel))
  rw [(shl_word (show s % 64 < 64 by omega)).1]
  refine (Times_any _ n (2 ^ (s % 64)) k w1 (HN.out.later HB1.out) (Nat.two_pow_pos _) (shl_word (show s % 64 < 64 by omega)).2 HK.out hk6).mono ?_
  rintro e w2 ⟨v, rfl, ⟨y, hy1, hy2, hyv, hy⟩, hb2⟩
  have HO2 := Hid.mk' (ownsRow_below HO.out hb2)
  have HB2 := Hid.mk' (below_chain HB1.out hb2)
  clear HO
  rcases hy with ⟨ad', cap', rfl, rfl⟩ | ⟨b', o', cap', rfl, hyc, hyp, hyl⟩
  · exfalso
    have := Nat.mul_pos hn0 (Nat.two_pow_pos (s % 64))
    simp [wv] at hyv
    omega
  have hyn := wlen_le_of_lt hy2 (k := k + 1) (by
    rw [hyv, Nat.pow_succ]
    exact Nat.mul_lt_mul'' HK.out (shl_word (show s % 64 < 64 by omega)).2)
  have HY := Hid.mk' hyl
  have HYV := Hid.mk' hyv
  have HY1 := Hid.mk' hy1
  have HY2 := Hid.mk' hy2
  have hz2 := HB2.out.size
  clear hyl hyv hy1 hy2 hb2
  go_wp2_with (at_builtin; go_must (refine wpList_append_lies _ rfl _ _ _ rfl w.heap.size 82 i0 _ 1 8 Tryd.underlying68 HINF.out.1 HINF.out.2.1 HINF.out.2.2.1 HINF.out.2.2.2 rfl (by omega) _ _ _ rfl HO2.out ⟨b', o', none⟩ y.length cap' (wordCells y) rfl (by rw [wordCells_length]; omega) (wordCells_news HY.out) (wordCells_one y) hyp (by unfold maxLen; rw [List.length_replicate]; omega) (by rw [List.length_replicate]; omega) hz2 _ rfl ?_; intro g' cap'' w3 hown3 hgrow3 hat3 hlt3; have HO3 := Hid.mk' hown3; have HG3 := Hid.mk' hgrow3; clear hown3 hgrow3 hat3))
  go_ret
  have ho : w3.ownsRow w.heap.size 82 1 (.slice (some ⟨g', 0, none⟩) (s / 64 + y.length) cap'') (List.replicate (s / 64) 0 ++ y).length (wordCells (List.replicate (s / 64) 0 ++ y)) := by
    rw [wordCells_join]; simpa using HO3.out
  refine ⟨_, rfl, ⟨List.replicate (s / 64) 0 ++ y, wrd_join (wrd_zeros _) HY1.out, noEnd_join HY2.out hyp, by rw [wv_zeros_then, HYV.out, shift_val], by simpa using wordsAt_of_row ho⟩, HB2.out.grown HG3.out hz2 (fun j hj => Nat.le_of_eq (Option.some.inj (show some w.heap.size = some j from hj)))⟩
end Go.Proofs.YtlnhpkmcinohdaaDoor
