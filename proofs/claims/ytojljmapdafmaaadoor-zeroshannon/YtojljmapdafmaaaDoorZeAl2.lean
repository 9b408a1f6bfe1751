/- zero.alone: what is found, as a list. -/
import Derived.Test.YtojljmapdafmaaaDoorZeAlone
import Derived.Test.YtojljmapdafmaaaDoorBig
import Derived.Test.YtojljmapdafmaaaDoorTab
import Derived.Deep.Onto
namespace Go.Proofs.YtojljmapdafmaaaDoor
open Go.RowKit

theorem digCells_snoc (l : List Nat) (d : Nat) : digCells (l ++ [d]) = digCells l ++ [.int .i64 (d : Int)] := by simp [digCells]

set_option maxRecDepth 100000 in
set_option maxHeartbeats 4000000 in
theorem list_any (l : List Nat) (hl : Asc 16 l) (w : World) (ht : TzAt w) :
    Calls Tryd.prog 47 #[.int .u64 (bitZ l : Nat)] w fun e w' => ∃ v, e = .returned v ∧ w'.ownsRow w.heap.size 3 1 v l.length (digCells l) ∧ Below w.heap.size w w' := by
  obtain ⟨i0, hi, hz0, hz1, hz2⟩ := info_parts Tryd.infoInt
  have HINF : Hid (Tryd.prog.info? 3 = some i0 ∧ i0.zero = some (.int .i64 0) ∧ i0.size = 1 ∧ i0.bytes = 8) := ⟨hi, hz0, hz1, hz2⟩
  clear hi hz0 hz1 hz2
  have HT := Hid.mk' ht
  have hsz := setSize_any l hl w
  have hle := asc_length hl
  have hleI : ((l.length : Nat) : Int) ≤ 16 := by omega
  have HL := Hid.mk' hl
  clear hl ht
  generalize hX : bitZ l = X at hsz ⊢
  have HX := Hid.mk' hX
  clear hX
  go_enter Tryd.func47, Tryd.ntmps47
  go_wp2_with fail
  refine hsz.mono ?_
  rintro e w' ⟨rfl, hw'⟩
  rw [hw']
  clear hw' hsz
  go_wp2_with (at_make; go_must (refine wpList_make_own _ rfl _ _ _ rfl w.heap.size 3 i0 _ 1 Tryd.underlying44 HINF.out.1 HINF.out.2.1 HINF.out.2.2.1 _ _ _ l.length rfl rfl (by omega) (by rw [HINF.out.2.2.2]; omega) (by unfold maxLen; omega) (Nat.le_refl _) ?_; intro w1 hown hgrow; have HO := Hid.mk' hown; have HB : Hid (Below w.heap.size w w1) := (Below.refl _ _).grown hgrow (Nat.le_refl _) (fun k e => by cases e); clear hown hgrow))
  go_loopw [0, 3] (fun t v wr => ∃ (d r : List Nat), t = .int .u64 (bitZ r : Nat) ∧ d.length ≤ 16 ∧ Hid (l = d ++ r) ∧ Hid (wr.ownsRow w.heap.size 3 1 v d.length (digCells d)) ∧ Hid (Below w.heap.size w wr)) (fun t _ _ => (intOf t).toNat)
  case atStart => exact ⟨[], l, by rw [HX.out], by simp, rfl, HO, HB⟩
  case round =>
    clear HO HB
    obtain ⟨d, r, rfl, hd, HLD, HR, HB⟩ := hrel
    have hz := HB.out.size
    rcases r with _ | ⟨v, r⟩
    · go_wp2_with fail
      go_ret
      obtain rfl : l = d := by have := HLD.out; simpa using this
      exact ⟨_, rfl, HR.out, HB.out⟩
    · have hasc : Asc 16 (v :: r) := by
        have h1 := HL.out
        rw [HLD.out] at h1
        exact ⟨(List.pairwise_append.1 h1.1).2.1, fun x hx => h1.2 x (List.mem_append_right _ hx)⟩
      have h64 := hasc.more (m := 64) (by decide)
      have HF1 := Hid.mk' (setFirst_any v r h64 wr (HT.out.below HB.out))
      have hX64 : bitZ (v :: r) < 18446744073709551616 := h64.lt
      have hpos := bitZ_pos (v := v) (r := r)
      have hx0 : (((bitZ (v :: r) : Nat) : Int) == 0) = false := by simp; omega
      have hw1 : IntKind.u64.wrap (((bitZ (v :: r) : Nat) : Int) - 1) = ((bitZ (v :: r) - 1 : Nat) : Int) := by rw [IntKind.wrap_u64]; omega
      have han : bits .and .u64 ((bitZ (v :: r) : Nat) : Int) ((bitZ (v :: r) - 1 : Nat) : Int) = ((bitZ r : Nat) : Int) := by
        rw [u64_and_nat _ _ hX64 (by omega), bitZ_less hasc.head.2]
      have HLT : Hid (bitZ r < bitZ (v :: r)) := by
        obtain ⟨m, e1, e2⟩ := low_form hasc.head.2
        show _ < _
        rw [e1, e2, Nat.pow_succ, Nat.mul_add, Nat.mul_one, Nat.mul_assoc]
        have := Nat.two_pow_pos v
        omega
      have HLD2 : Hid (l = (d ++ [v]) ++ r) := by have h1 := HLD.out; show l = _; rw [h1]; simp
      have HDL : Hid ((d ++ [v]).length ≤ 16) := by
        have h1 := asc_length HL.out
        rw [HLD2.out, List.length_append] at h1
        show _ ≤ _
        omega
      have hv0 : (0 : Int) ≤ (v : Int) := by omega
      clear hasc h64 hX64 hpos
      generalize hR2 : bitZ r = Y at *
      generalize bitZ (v :: r) = X' at *
      generalize X' - 1 = Z at *
      have HR2 := Hid.mk' hR2
      clear hR2
      go_wp2_with fail
      refine HF1.out.mono ?_
      rintro e w' ⟨rfl, hw'⟩
      rw [hw']
      clear hw' HF1
      go_wp2_with (at_builtin; go_must (refine wpList_append_lies _ rfl _ _ _ rfl w.heap.size 3 i0 _ 1 8 Tryd.underlying44 HINF.out.1 HINF.out.2.1 HINF.out.2.2.1 HINF.out.2.2.2 rfl (by omega) u3 _ _ rfl (HR.out.alloc _) ⟨wr.heap.size, 0, none⟩ 1 1 [.int .i64 (v : Int)] rfl rfl (one_new _ _ _) (by simp [Value.oneCell']) (by omega) (by unfold maxLen; omega) (by omega) (by simp; omega) _ rfl ?_; intro g' cap' w3 hown3 hgrow3 hat3 hlt3; have HO3 := Hid.mk' hown3; have HG3 := Hid.mk' hgrow3; clear hown3 hgrow3 hat3))
      refine ⟨⟨d ++ [v], r, by rw [HR2.out], HDL.out, HLD2, ?_, below_push HB.out HR.out HG3.out⟩, by simp [intOf]; have := HLT.out; omega⟩
      show World.ownsRow _ _ _ _ _ _ _
      rw [digCells_snoc]
      simpa using HO3.out

set_option maxRecDepth 100000 in
set_option maxHeartbeats 4000000 in
theorem alone_any (n m : Nat) (ev : Value) (p q : Nat → Nat) (w : World) (hE : EdAt w ev m (fun i => (p i : Int)) (fun i => (q i : Int))) (hn : n ≤ 16) (hm : m ≤ 1000) (hpq : ∀ k, k < m → p k < q k ∧ q k < n) (ht : TzAt w) :
    Calls Tryd.prog 34 #[.agg #[.int .i64 n, ev]] w fun e w' => ∃ v, e = .returned v ∧ w'.ownsRow w.heap.size 3 1 v (aloneL (okF (apF p q m)) n).length (digCells (aloneL (okF (apF p q m)) n)) ∧ Below w.heap.size w w' := by
  obtain ⟨ad, cap, rfl, -⟩ := id hE
  have HNR : Hid (∀ W, Below w.heap.size w W → Calls Tryd.prog 43 #[.agg #[.int .i64 n, .slice ad m cap]] W fun e w' => ∃ g, e = .returned (.slice (some ⟨g, 0, none⟩) n n) ∧ FilU W w' g n (nrB p q m)) := fun W hb => near_any n m _ p q W (hE.later hb) hn hm hpq
  have HNL : Hid (∀ v, v < n → nrB p q m v < 18446744073709551616) := fun v hv => nrB_lt p q m v 64 (by omega) (fun k hk => by have := hpq k hk; omega)
  have HT := Hid.mk' ht
  have hnI : (n : Int) ≤ 16 := by omega
  have hn0 : (0 : Int) ≤ (n : Int) := by omega
  have hb1 : Below w.heap.size w (w.alloc (.cells #[.int .i64 n, .slice ad m cap] 33)) := (Below.refl _ _).alloc (Nat.le_refl _) _
  have HN1 := Hid.mk' (HNR.out _ hb1)
  have HB1 := Hid.mk' hb1
  clear hE ht hpq hb1 HNR
  go_enter Tryd.func34, Tryd.ntmps34
  go_wp2_with fail
  refine HN1.out.mono ?_
  rintro e w2 ⟨g, rfl, h2⟩
  have HB2 := Hid.mk' (HB1.out.trans (h2.below.mono HB1.out.size))
  have HF2 : Hid (FilU w w2 g n (nrB p q m)) := ⟨h2.row, h2.fz, HB2.out, Nat.le_trans HB1.out.size h2.hg, h2.lt⟩
  clear h2 HN1 HB1 HB2
  go_wp2_with fail
  go_loopw [10] (fun i wr => ∃ k : Nat, k ≤ n ∧ i = .int .i64 k ∧ Hid (FilU w wr g n (fun i => if i < k then apF p q m i else nrB p q m i))) (fun i _ => n - (intOf i).toNat)
  case atStart => exact ⟨0, Nat.zero_le _, rfl, HF2.out.congr fun i _ => by simp⟩
  case round =>
    clear HF2
    obtain ⟨k, hk, rfl, HF⟩ := hrel
    have hk0 : (0 : Int) ≤ (k : Int) := by omega
    rcases Nat.lt_or_ge k n with h1 | h1
    · have hkn : (k : Int) < (n : Int) := by omega
      have ck := HF.out.row k h1
      rw [if_neg (by omega)] at ck
      have fk := HF.out.fz k h1
      have hx := HNL.out k h1
      have HN := Hid.mk' (HF.out.set h1 (apF p q m k) (f' := fun i => if i < k + 1 then apF p q m i else nrB p q m i) (fun i _ => by
        by_cases e : i = k
        · subst e; simp
        · rw [if_neg e]
          by_cases e2 : i < k
          · rw [if_pos (by omega), if_pos e2]
          · rw [if_neg (by omega), if_neg e2]))
      have hxor : bits .xor .u64 (if IntKind.u64.signed = true then -1 else IntKind.u64.max) ((nrB p q m k : Nat) : Int) = ((apF p q m k : Nat) : Int) := by
        rw [show (if IntKind.u64.signed = true then (-1 : Int) else IntKind.u64.max) = 18446744073709551615 by decide, show (18446744073709551615 : Int) = ((18446744073709551615 : Nat) : Int) from rfl, u64_xor_nat _ _ (by decide) hx]
        congr 1
        refine Nat.eq_of_testBit_eq fun i => ?_
        rw [Nat.testBit_xor]
        have e0 : (18446744073709551615 : Nat) = 2 ^ 64 - 1 := by decide
        by_cases hi : i < 64
        · unfold apF
          rw [test_not hx hi, e0, Nat.testBit_two_pow_sub_one]
          simp [hi]
        · have a1 : (nrB p q m k).testBit i = false := Nat.testBit_lt_two_pow (Nat.lt_of_lt_of_le hx (Nat.pow_le_pow_right (n := 2) (by decide) (Nat.le_of_not_lt hi)))
          have a2 : (apF p q m k).testBit i = false := Nat.testBit_lt_two_pow (Nat.lt_of_lt_of_le (by unfold apF; omega : apF p q m k < 2 ^ 64) (Nat.pow_le_pow_right (n := 2) (by decide) (Nat.le_of_not_lt hi)))
          rw [a1, a2, e0, Nat.testBit_two_pow_sub_one]
          simp [hi]
      generalize apF p q m k = A at hxor HN
      generalize nrB p q m k = B at hxor ck
      clear hx
      go_wp2_with fail
      exact ⟨⟨k + 1, h1, by go_num, HN⟩, by simp [intOf]; omega⟩
    · obtain rfl : k = n := by omega
      have HFA : Hid (FilU w wr g k (apF p q m)) := HF.out.congr fun i hi => by simp [hi]
      have hb5 : Below wr.heap.size wr (wr.alloc (.cells #[.int .u64 0] 77)) := (Below.refl _ _).alloc (Nat.le_refl _) _
      have HF5 := Hid.mk' (HFA.out.later hb5)
      have hT5 : TzAt (wr.alloc (.cells #[.int .u64 0] 77)) := HT.out.below HF5.out.below
      have hTl : 9 < w.heap.size := cell_lt (HT.out 0 (by decide))
      have hwle := HFA.out.below.size
      have HGW := grow_any tellA (apF p q m) (fun s => .int .u64 (bitZ s : Nat)) 45 #[.pointer (some ⟨wr.heap.size, 0, none⟩)] wr.heap.size g k k (wr.alloc (.cells #[.int .u64 0] 77)) [] (Asc k) ⟨List.Pairwise.nil, fun _ h => by cases h⟩ (fun s g l hs hg _ => tellA_asc hs hg) (enters_of Tryd.func45 (by kernel_rfl) rfl) hn (fun v hv => by unfold apF; omega) HF5.out.row (Nat.ne_of_lt HFA.out.lt) (by omega) hT5 (by go_simp; rfl) (by go_simp) (fun s gg l W hs _ hc hf hgg hl => tell_any wr.heap.size k s gg l W hn hs hgg hl hc hf)
      rw [fromA_alone] at HGW
      have HGW := Hid.mk' HGW
      have HBw := Hid.mk' HF5.out.below
      have HSZ : Hid (w.heap.size ≤ wr.heap.size) := hwle
      clear HF HFA HF5 hb5 hT5 hTl hwle HNL h1 hk
      go_wp2_with fail
      refine HGW.out.mono ?_
      rintro e w6 ⟨rfl, hg6, hc6, hf6, ha6⟩
      have HB6 : Hid (Below w.heap.size w w6) := HBw.out.grown hg6 HBw.out.size (fun k e => by cases e; exact HSZ.out)
      have HLI : Hid (Calls Tryd.prog 47 #[.int .u64 (bitZ (aloneL (okF (apF p q m)) k) : Nat)] w6 fun e w' => ∃ v, e = .returned v ∧ w'.ownsRow w6.heap.size 3 1 v (aloneL (okF (apF p q m)) k).length (digCells (aloneL (okF (apF p q m)) k)) ∧ Below w6.heap.size w6 w') := list_any _ (ha6.more hn) w6 (HT.out.below HB6.out)
      clear HGW hg6 hf6 ha6 HBw HSZ HT
      generalize hA : aloneL (okF (apF p q m)) k = A at *
      have HA := Hid.mk' hA
      clear hA
      go_wp2_with fail
      refine HLI.out.mono ?_
      rintro e w7 ⟨v7, rfl, h7, hb7⟩
      have HE : Hid (w7.ownsRow w.heap.size 3 1 v7 A.length (digCells A) ∧ Below w.heap.size w w7) := ⟨h7.mono HB6.out.size, HB6.out.trans (hb7.mono HB6.out.size)⟩
      obtain ⟨a7, c7, rfl, _⟩ := row_shape h7
      clear h7 hb7 hc6
      go_wp2_with fail
      go_ret
      rw [HA.out]
      exact ⟨_, rfl, HE.out.1, HE.out.2⟩
end Go.Proofs.YtojljmapdafmaaaDoor
