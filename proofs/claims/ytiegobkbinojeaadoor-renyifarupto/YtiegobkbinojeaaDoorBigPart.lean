/- The document's BigSub, BigPart, BigGcd, BigInt. -/
import Derived.Test.YtiegobkbinojeaaDoorBigMul
import Derived.Test.YtiegobkbinojeaaDoorValidWalk
import Derived.Deep.LoopGhost
namespace Go.Proofs.YtiegobkbinojeaaDoor
open Go.RowKit

/-- BigAdd of any two that are not of a million digits. -/
theorem BigAdd_any (u v : Value) (a b k : Nat) (w : World) (ha : BigAt w u a) (hb : BigAt w v b) (hka : a < 1000000 ^ k) (hkb : b < 1000000 ^ k) (hk : k ≤ 1000000) :
    Calls Tryd.prog 72 #[u, v] w fun e w' => ∃ r, e = .returned r ∧ BigAt w' r (a + b) ∧ Below w.heap.size w w' := by
  obtain ⟨x, hx1, hx2, rfl, hx⟩ := ha
  obtain ⟨y, hy1, hy2, rfl, hy⟩ := hb
  exact BigAdd_ints u v x y w hx1 hy1 hx hy (by have := len_le_of_lt hx2 hka; omega) (by have := len_le_of_lt hy2 hkb; omega)

theorem sub_step {x y l : List Nat} {k c d f c' e : Nat} (hk : l.length = k) (h : bv (x.take k) + 1000000 ^ k * c = bv l + bv (y.take k)) (hd : bv (x.take (k + 1)) = bv (x.take k) + 1000000 ^ k * d) (hf : bv (y.take (k + 1)) = bv (y.take k) + 1000000 ^ k * f) (he : d + 1000000 * c' = e + c + f) :
    bv (x.take (k + 1)) + 1000000 ^ (k + 1) * c' = bv (l ++ [e]) + bv (y.take (k + 1)) := by
  rw [bv_append, bv_single, hk, hd, hf, Nat.pow_succ]
  have h1 : 1000000 ^ k * (d + 1000000 * c') = 1000000 ^ k * (e + c + f) := by rw [he]
  generalize 1000000 ^ k = P at *
  grind
theorem sub_close {w wr w3 : World} {sv : Value} {x y l : List Nat} {k c c' : Nat} {e : Int} {g cap : Nat} {X : Obj} (hkx : k < x.length)
    (hln : l.length = k) (hv : bv (x.take k) + 1000000 ^ k * c = bv l + bv (y.take k)) (hd : Dig l) (hr : wr.ownsRow w.heap.size 3 1 sv l.length (digCells l)) (hb : Below w.heap.size w wr)
    (he : e = ((x.getD k 0 : Nat) : Int) - (c : Int) - ((y.getD k 0 : Nat) : Int) + 1000000 * (c' : Int)) (h0 : 0 ≤ e) (h1 : e < 1000000)
    (hg : (wr.alloc X).grownBy w3 sv.ownBlock) (ho : w3.ownsRow w.heap.size 3 1 (.slice (some ⟨g, 0, none⟩) (l.length + 1) cap) (l.length + 1) (digCells l ++ [.int .i64 e])) (hc' : c' ≤ 1) :
    ∃ (k' cc : Nat) (l' : List Nat), Value.int .i64 ((k : Int) + 1) = .int .i64 k' ∧ Value.int .i64 (c' : Int) = .int .i64 cc ∧ cc ≤ 1 ∧ k' ≤ x.length ∧ Hid (l'.length = k') ∧ Hid (bv (x.take k') + 1000000 ^ k' * cc = bv l' + bv (y.take k')) ∧ Hid (Dig l') ∧ Hid (w3.ownsRow w.heap.size 3 1 (.slice (some ⟨g, 0, none⟩) (l.length + 1) cap) l'.length (digCells l')) ∧ Hid (Below w.heap.size w w3) := by
  obtain ⟨n, rfl⟩ := Int.eq_ofNat_of_zero_le h0
  refine ⟨k + 1, c', l ++ [n], by congr 1, rfl, hc', by omega, by show _ = _; simp [hln], sub_step hln hv (bv_take_digit x k) (bv_take_digit y k) (by omega), hd.push (by omega), ?_, below_push hb hr hg⟩
  show World.ownsRow _ _ _ _ _ _ _
  rw [digCells_push]
  simpa using ho

set_option maxRecDepth 10000 in
set_option maxHeartbeats 2000000 in
theorem BigSub_ints (u v : Value) (x y : List Nat) (w : World) (hx : Dig x) (hy : Dig y) (h1 : IntsAt w u x) (h2 : IntsAt w v y) (hlx : x.length ≤ 1000000) (hly : y.length ≤ x.length) (hle : bv y ≤ bv x) :
    Calls Tryd.prog 73 #[u, v] w fun e w' => ∃ r, e = .returned r ∧ BigAt w' r (bv x - bv y) ∧ Below w.heap.size w w' := by
  obtain ⟨i0, hi, hz0, hz1, hz2⟩ := info_parts Tryd.infoInt
  have HINF : Hid (Tryd.prog.info? 3 = some i0 ∧ i0.zero = some (.int .i64 0) ∧ i0.size = 1 ∧ i0.bytes = 8) := ⟨hi, hz0, hz1, hz2⟩
  clear hi hz0 hz1 hz2
  obtain ⟨a1, c1, rfl⟩ := h1.form
  obtain ⟨a2, c2, rfl⟩ := h2.form
  have H1 := Hid.mk' h1
  have H2 := Hid.mk' h2
  have HX := Hid.mk' hx
  have HY := Hid.mk' hy
  have HLE := Hid.mk' hle
  clear h1 h2 hx hy hle
  go_enter Tryd.func73, Tryd.ntmps73
  go_wp2_with fail
  go_loopw [5, 6, 7] (fun s t i wr => ∃ (k c : Nat) (l : List Nat), i = .int .i64 k ∧ t = .int .i64 c ∧ c ≤ 1 ∧ k ≤ x.length ∧ Hid (l.length = k) ∧ Hid (bv (x.take k) + 1000000 ^ k * c = bv l + bv (y.take k)) ∧ Hid (Dig l) ∧ Hid (wr.ownsRow w.heap.size 3 1 s l.length (digCells l)) ∧ Hid (Below w.heap.size w wr)) (fun _ _ i _ => x.length - (intOf i).toNat)
  case atStart => exact ⟨0, 0, [], rfl, rfl, by omega, by omega, rfl, by show _ = _; simp [bv], (fun i hi => by simp at hi), ⟨rfl, Or.inl ⟨rfl, rfl⟩⟩, Below.refl _ _⟩
  case round =>
    obtain ⟨k, c, l, rfl, rfl, hc, hk, HLN, HV, HD, HR, HB⟩ := hrel
    have hln1 : l.length ≤ k := by have := HLN.out; omega
    have hz := HB.out.size
    have i0' : (0 : Int) ≤ (k : Int) := by omega
    have hcI : (0 : Int) ≤ (c : Int) ∧ (c : Int) ≤ 1 := by omega
    by_cases hkx : k < x.length
    · obtain ⟨b1, o1, rfl, hc1⟩ := (H1.out.later HB.out).cellAt hkx
      have hdx := HX.out k hkx
      obtain ⟨d, hd⟩ : ∃ d : Nat, d = x.getD k 0 := ⟨_, rfl⟩
      have HDD := Hid.mk' hd
      rw [← hd] at hc1
      have hdd : d < 1000000 := by rw [hd]; exact hdx
      clear hd hdx
      have j1 : (k : Int) < (x.length : Int) := by omega
      by_cases hky : k < y.length
      · obtain ⟨b2, o2, rfl, hc2⟩ := (H2.out.later HB.out).cellAt hky
        have hdy := HY.out k hky
        obtain ⟨f, hf⟩ : ∃ f : Nat, f = y.getD k 0 := ⟨_, rfl⟩
        have HFF := Hid.mk' hf
        rw [← hf] at hc2
        have hff : f < 1000000 := by rw [hf]; exact hdy
        clear hf hdy
        have j2 : (k : Int) < (y.length : Int) := by omega
        by_cases hneg : (d : Int) - (c : Int) - (f : Int) < 0
        · go_wp2_with (at_builtin; go_must (refine wpList_append_lies _ rfl _ _ _ rfl w.heap.size 3 i0 _ 1 8 Tryd.underlying46 HINF.out.1 HINF.out.2.1 HINF.out.2.2.1 HINF.out.2.2.2 rfl (by omega) u5 _ _ rfl (HR.out.alloc _) ⟨wr.heap.size, 0, none⟩ 1 1 [.int .i64 ((d : Int) - (c : Int) - (f : Int) + 1000000)] rfl rfl (one_new _ _ _) (by simp [Value.oneCell']) (by omega) (by unfold maxLen; omega) (by omega) (by simp; omega) _ rfl ?_; intro g' cap' w3 hown3 hgrow3 hat3 hlt3; have HO3 := Hid.mk' hown3; have HG3 := Hid.mk' hgrow3; clear hown3 hgrow3 hat3))
          exact ⟨sub_close (c' := 1) hkx HLN.out HV.out HD.out HR.out HB.out (by rw [← HDD.out, ← HFF.out]; omega) (by omega) (by omega) HG3.out HO3.out (by omega), by simp only [intOf]; omega⟩
        · go_wp2_with (at_builtin; go_must (refine wpList_append_lies _ rfl _ _ _ rfl w.heap.size 3 i0 _ 1 8 Tryd.underlying46 HINF.out.1 HINF.out.2.1 HINF.out.2.2.1 HINF.out.2.2.2 rfl (by omega) u5 _ _ rfl (HR.out.alloc _) ⟨wr.heap.size, 0, none⟩ 1 1 [.int .i64 ((d : Int) - (c : Int) - (f : Int))] rfl rfl (one_new _ _ _) (by simp [Value.oneCell']) (by omega) (by unfold maxLen; omega) (by omega) (by simp; omega) _ rfl ?_; intro g' cap' w3 hown3 hgrow3 hat3 hlt3; have HO3 := Hid.mk' hown3; have HG3 := Hid.mk' hgrow3; clear hown3 hgrow3 hat3))
          exact ⟨sub_close (c' := 0) hkx HLN.out HV.out HD.out HR.out HB.out (by rw [← HDD.out, ← HFF.out]; omega) (by omega) (by omega) HG3.out HO3.out (by omega), by simp only [intOf]; omega⟩
      · have j2 : ¬ (k : Int) < (y.length : Int) := by omega
        have hy0 := getD_ge hky
        have HY0 := Hid.mk' hy0
        clear hy0
        by_cases hneg : (d : Int) - (c : Int) < 0
        · go_wp2_with (at_builtin; go_must (refine wpList_append_lies _ rfl _ _ _ rfl w.heap.size 3 i0 _ 1 8 Tryd.underlying46 HINF.out.1 HINF.out.2.1 HINF.out.2.2.1 HINF.out.2.2.2 rfl (by omega) u5 _ _ rfl (HR.out.alloc _) ⟨wr.heap.size, 0, none⟩ 1 1 [.int .i64 ((d : Int) - (c : Int) + 1000000)] rfl rfl (one_new _ _ _) (by simp [Value.oneCell']) (by omega) (by unfold maxLen; omega) (by omega) (by simp; omega) _ rfl ?_; intro g' cap' w3 hown3 hgrow3 hat3 hlt3; have HO3 := Hid.mk' hown3; have HG3 := Hid.mk' hgrow3; clear hown3 hgrow3 hat3))
          exact ⟨sub_close (c' := 1) hkx HLN.out HV.out HD.out HR.out HB.out (by rw [← HDD.out, HY0.out]; omega) (by omega) (by omega) HG3.out HO3.out (by omega), by simp only [intOf]; omega⟩
        · go_wp2_with (at_builtin; go_must (refine wpList_append_lies _ rfl _ _ _ rfl w.heap.size 3 i0 _ 1 8 Tryd.underlying46 HINF.out.1 HINF.out.2.1 HINF.out.2.2.1 HINF.out.2.2.2 rfl (by omega) u5 _ _ rfl (HR.out.alloc _) ⟨wr.heap.size, 0, none⟩ 1 1 [.int .i64 ((d : Int) - (c : Int))] rfl rfl (one_new _ _ _) (by simp [Value.oneCell']) (by omega) (by unfold maxLen; omega) (by omega) (by simp; omega) _ rfl ?_; intro g' cap' w3 hown3 hgrow3 hat3 hlt3; have HO3 := Hid.mk' hown3; have HG3 := Hid.mk' hgrow3; clear hown3 hgrow3 hat3))
          exact ⟨sub_close (c' := 0) hkx HLN.out HV.out HD.out HR.out HB.out (by rw [← HDD.out, HY0.out]; omega) (by omega) (by omega) HG3.out HO3.out (by omega), by simp only [intOf]; omega⟩
    · have j1 : ¬ (k : Int) < (x.length : Int) := by omega
      obtain ⟨hI, hcap⟩ := intsAt_of_row HR.out
      have ht := trimmed_at u5 l wr HD.out hI hcap
      have hsum : Hid (bv l = bv x - bv y) := by
        have h1 := HV.out
        rw [bv_take_ge x k (by omega), bv_take_ge y k (by omega)] at h1
        have h2 := bv_lt l HD.out
        have h3 := HLE.out
        rw [HLN.out] at h2
        show _ = _
        rcases (show c = 0 ∨ c = 1 by omega) with h4 | h4
        · rw [h4, Nat.mul_zero] at h1; omega
        · rw [h4, Nat.mul_one] at h1; omega
      clear hI hcap
      go_wp2_with fail
      refine ht.mono ?_
      rintro e w4 ⟨r, rfl, hr, hw4⟩
      go_wp2_with fail
      go_ret
      exact ⟨r, rfl, by rw [← hsum.out]; exact hr, HB.out⟩

/-- BigSub of any two, the second no greater. -/
theorem BigSub_any (u v : Value) (a b k : Nat) (w : World) (ha : BigAt w u a) (hb : BigAt w v b) (hle : b ≤ a) (hka : a < 1000000 ^ k) (hk : k ≤ 1000000) :
    Calls Tryd.prog 73 #[u, v] w fun e w' => ∃ r, e = .returned r ∧ BigAt w' r (a - b) ∧ Below w.heap.size w w' := by
  obtain ⟨x, hx1, hx2, rfl, hx⟩ := ha
  obtain ⟨y, hy1, hy2, rfl, hy⟩ := hb
  refine BigSub_ints u v x y w hx1 hy1 hx hy (by have := len_le_of_lt hx2 hka; omega) ?_ hle
  rcases Nat.lt_or_ge x.length y.length with h | h
  · have := bv_lt_of_len hx1 hy2 h; omega
  · exact h

theorem part_more {a b : Nat} (hb : 0 < b) (h : b ≤ a % (b + b)) : a / b = a / (b + b) + a / (b + b) + 1 ∧ a % b = a % (b + b) - b := by
  have h1 := Nat.div_add_mod a (b + b)
  have h2 := Nat.mod_lt a (show 0 < b + b by omega)
  have h3 : a = (a % (b + b) - b) + b * (a / (b + b) + a / (b + b) + 1) := by
    rw [Nat.mul_add, Nat.mul_add, Nat.mul_one]
    rw [Nat.add_mul] at h1
    omega
  exact (Nat.div_mod_unique hb).2 ⟨h3.symm, by omega⟩
theorem part_less {a b : Nat} (hb : 0 < b) (h : ¬ b ≤ a % (b + b)) : a / b = a / (b + b) + a / (b + b) ∧ a % b = a % (b + b) := by
  have h1 := Nat.div_add_mod a (b + b)
  have h3 : a = (a % (b + b)) + b * (a / (b + b) + a / (b + b)) := by
    rw [Nat.mul_add]
    rw [Nat.add_mul] at h1
    omega
  exact (Nat.div_mod_unique hb).2 ⟨h3.symm, by omega⟩
theorem bigAt_zero (w : World) : BigAt w (.slice none 0 0) 0 := ⟨[], (fun i hi => by simp at hi), (fun i hi => by simp at hi), rfl, Or.inl ⟨none, 0, rfl, rfl⟩⟩

set_option maxRecDepth 10000 in
set_option maxHeartbeats 1000000 in
/-- BigPart: how often, and what is left. -/
theorem BigPart_any (k : Nat) (hk : k + 1 ≤ 1000000) (a : Nat) (hka : a < 1000000 ^ k) : ∀ (n b : Nat), a / b = n → 0 < b → b < 1000000 ^ (k + 1) → ∀ (u v : Value) (w : World), BigAt w u a → BigAt w v b →
    Calls Tryd.prog 62 #[u, v] w fun e w' => ∃ q r, e = .returned (.tuple #[q, r]) ∧ BigAt w' q (a / b) ∧ BigAt w' r (a % b) ∧ Below w.heap.size w w' := by
  have hk1 : 1000000 ^ k < 1000000 ^ (k + 1) := Nat.pow_lt_pow_right (by decide) (by omega)
  intro n
  induction n using Nat.strongRecOn with
  | _ n ih =>
    intro b hn hb hkb u v w hu hv
    have hcmp := BigCmp_any u v a b (k + 1) w hu hv (by omega) hkb hk
    have HU := Hid.mk' hu
    have HV := Hid.mk' hv
    have HIH := Hid.mk' ih
    have HKA := Hid.mk' (And.intro hka (And.intro hk1 hkb))
    clear hu hv ih hka hk1 hkb
    by_cases hlt : a < b
    · rw [cmpOf_lt hlt] at hcmp
      have hq : a / b = 0 := Nat.div_eq_of_lt hlt
      have hr : a % b = a := Nat.mod_eq_of_lt hlt
      rw [hq, hr]
      clear hq hr hn
      go_enter Tryd.func62, Tryd.ntmps62
      go_wp2_with fail
      refine hcmp.mono ?_
      clear hcmp
      rintro e w1 ⟨rfl, m, hw1⟩
      have hb1 : Below w.heap.size w w1 := by rw [hw1]; exact below_drewN (Below.refl _ _) _
      go_wp2_with fail
      go_ret2
      exact ⟨_, _, rfl, bigAt_zero _, HU.out.later (below_drewN (Below.refl _ _) _), below_drewN (Below.refl _ _) _⟩
    · have hz : 0 ≤ cmpOf a b := by
        rcases Nat.lt_or_ge b a with h | h
        · rw [cmpOf_gt h]; omega
        · rw [cmpOf_eq (by omega)]; omega
      generalize cmpOf a b = z at hcmp hz
      go_enter Tryd.func62, Tryd.ntmps62
      go_wp2_with fail
      refine hcmp.mono ?_
      clear hcmp
      rintro e w1 ⟨rfl, m, hw1⟩
      have hb1 : Below w.heap.size w w1 := by rw [hw1]; exact below_drewN (Below.refl _ _) _
      have HB1 := Hid.mk' hb1
      clear hw1
      have hba : b ≤ a := by omega
      have h2k : 1000000 ^ k * 2 ≤ 1000000 ^ (k + 1) := by rw [Nat.pow_succ]; exact Nat.mul_le_mul_left _ (by decide)
      have hbb : b + b < 1000000 ^ (k + 1) := by have := HKA.out.1; omega
      have hless : a / (b + b) < n := by
        have h1 : a / (b + b) = a / b / 2 := by rw [Nat.div_div_eq_div_mul, Nat.mul_two]
        have h2 : 0 < a / b := Nat.div_pos hba hb
        rw [h1, ← hn]
        omega
      have hadd := BigAdd_any v v b b (k + 1) w1 (HV.out.later hb1) (HV.out.later hb1) HKA.out.2.2 HKA.out.2.2 hk
      have HBB := Hid.mk' hbb
      have HLS := Hid.mk' hless
      clear hb1 h2k hbb hless hn
      go_wp2_with fail
      refine hadd.mono ?_
      clear hadd
      rintro e w2 ⟨v2, rfl, hv2, hb2⟩
      have hrec := HIH.out _ HLS.out (b + b) rfl (by omega) HBB.out u v2 w2 ((HU.out.later HB1.out).later hb2) hv2
      have HB2 := Hid.mk' (below_chain HB1.out hb2)
      clear hv2 hb2
      go_wp2_with fail
      refine hrec.mono ?_
      clear hrec HIH HLS
      rintro e w3 ⟨q, r, rfl, hq, hr, hb3⟩
      have HB3 := Hid.mk' (below_chain HB2.out hb3)
      have hqk : a / (b + b) < 1000000 ^ k := Nat.lt_of_le_of_lt (Nat.div_le_self _ _) HKA.out.1
      have hrk : a % (b + b) < 1000000 ^ (k + 1) := Nat.lt_trans (Nat.mod_lt _ (by omega)) HBB.out
      have hadd := BigAdd_any q q _ _ k w3 hq hq hqk hqk (by omega)
      have HR := Hid.mk' hr
      have HRK := Hid.mk' hrk
      have HQK := Hid.mk' hqk
      clear hq hr hb3 hqk hrk
      go_wp2_with fail
      refine hadd.mono ?_
      clear hadd
      rintro e w4 ⟨q2, rfl, hq2, hb4⟩
      have HB4 := Hid.mk' (below_chain HB3.out hb4)
      have HR4 := Hid.mk' (HR.out.later hb4)
      have hcmp := BigCmp_any r v _ b (k + 1) w4 HR4.out (HV.out.later HB4.out) HRK.out HKA.out.2.2 hk
      have HQ2 := Hid.mk' hq2
      clear hq2 hb4 HR
      by_cases hge : b ≤ a % (b + b)
      · have hz2 : 0 ≤ cmpOf (a % (b + b)) b := by
          rcases Nat.lt_or_ge b (a % (b + b)) with h | h
          · rw [cmpOf_gt h]; omega
          · rw [cmpOf_eq (by omega)]; omega
        have HPM := Hid.mk' (part_more hb hge)
        have HGE := Hid.mk' hge
        clear hge
        generalize cmpOf (a % (b + b)) b = z2 at hcmp hz2
        go_wp2_with fail
        refine hcmp.mono ?_
        clear hcmp
        rintro e w5 ⟨rfl, m5, hw5⟩
        have hb5 : Below w4.heap.size w4 w5 := by rw [hw5]; exact below_drewN (Below.refl _ _) _
        have HB5 := Hid.mk' (below_chain HB4.out hb5)
        have hsub := BigSub_any r v _ b (k + 1) w5 (HR4.out.later hb5) (HV.out.later HB5.out) HGE.out HRK.out hk
        have HQ5 := Hid.mk' (HQ2.out.later hb5)
        clear hw5 hb5 HQ2
        go_wp2_with fail
        refine hsub.mono ?_
        clear hsub
        rintro e w6 ⟨r2, rfl, hr2, hb6⟩
        have HB6 := Hid.mk' (below_chain HB5.out hb6)
        have HQ6 := Hid.mk' (HQ5.out.later hb6)
        have HR6 := Hid.mk' hr2
        have hone := BigOf_any 1 w6 (by omega)
        clear hr2 hb6 HQ5
        go_wp2_with fail
        refine hone.mono ?_
        clear hone
        rintro e w7 ⟨v7, rfl, hv7, hb7⟩
        have HB7 := Hid.mk' (below_chain HB6.out hb7)
        have HR7 := Hid.mk' (HR6.out.later hb7)
        have hqq : a / (b + b) + a / (b + b) < 1000000 ^ (k + 1) := by
          have h1 := HQK.out
          have h2 : 1000000 ^ k * 2 ≤ 1000000 ^ (k + 1) := by rw [Nat.pow_succ]; exact Nat.mul_le_mul_left _ (by decide)
          omega
        have hadd := BigAdd_any q2 v7 _ 1 (k + 1) w7 (HQ6.out.later hb7) hv7 hqq (Nat.one_lt_pow (by omega) (by decide)) hk
        clear hv7 hb7 hqq
        go_wp2_with fail
        refine hadd.mono ?_
        clear hadd
        rintro e w8 ⟨q8, rfl, hq8, hb8⟩
        go_wp2_with fail
        go_ret2
        exact ⟨q8, r2, rfl, by rw [HPM.out.1]; exact hq8, by rw [HPM.out.2]; exact HR7.out.later hb8, below_chain HB7.out hb8⟩
      · have hz2 : cmpOf (a % (b + b)) b < 0 := by rw [cmpOf_lt (by omega)]; omega
        have HPM := Hid.mk' (part_less hb hge)
        clear hge
        generalize cmpOf (a % (b + b)) b = z2 at hcmp hz2
        go_wp2_with fail
        refine hcmp.mono ?_
        clear hcmp
        rintro e w5 ⟨rfl, m5, hw5⟩
        have hb5 : Below w4.heap.size w4 w5 := by rw [hw5]; exact below_drewN (Below.refl _ _) _
        go_wp2_with fail
        go_ret2
        exact ⟨q2, r, rfl, by rw [HPM.out.1]; exact HQ2.out.later (below_drewN (Below.refl _ _) _), by rw [HPM.out.2]; exact HR4.out.later (below_drewN (Below.refl _ _) _), below_chain HB4.out (below_drewN (Below.refl _ _) _)⟩

theorem BigAt.len {w : World} {v : Value} {n : Nat} (h : BigAt w v n) : ∃ ad m cap, v = .slice ad m cap ∧ (m = 0 ↔ n = 0) := by
  obtain ⟨l, h1, h2, rfl, h4⟩ := h
  obtain ⟨ad, cap, rfl⟩ := h4.form
  refine ⟨ad, l.length, cap, rfl, ?_⟩
  constructor
  · intro h0; rw [List.eq_nil_of_length_eq_zero h0]; rfl
  · intro h0
    rcases Nat.eq_zero_or_pos l.length with h | h
    · exact h
    · have := h2.take_le h
      have h5 : 0 < 1000000 ^ (l.length - 1) := Nat.pow_pos (by decide)
      omega

theorem gcd_round (m g : Nat) : Nat.gcd g (m % g) = Nat.gcd m g := by
  rw [Nat.gcd_comm m g, Nat.gcd_rec g m, Nat.gcd_comm]

set_option maxRecDepth 10000 in
set_option maxHeartbeats 1000000 in
theorem BigGcd_any (u v : Value) (a b k : Nat) (w : World) (ha : BigAt w u a) (hb : BigAt w v b) (hka : a < 1000000 ^ k) (hkb : b < 1000000 ^ k) (hk : k + 1 ≤ 1000000) :
    Calls Tryd.prog 61 #[u, v] w fun e w' => ∃ r, e = .returned r ∧ BigAt w' r (Nat.gcd a b) ∧ Below w.heap.size w w' := by
  have HA := Hid.mk' ha
  have HB := Hid.mk' hb
  have HK := Hid.mk' (And.intro hka hkb)
  clear ha hb hka hkb
  go_enter Tryd.func61, Tryd.ntmps61
  go_wp2_with fail
  go_loopg [0, 1] b (fun gk s r wr => ∃ m : Nat, Hid (BigAt wr s m) ∧ Hid (BigAt wr r gk) ∧ Hid (Nat.gcd m gk = Nat.gcd a b) ∧ Hid (m < 1000000 ^ k ∧ gk < 1000000 ^ k) ∧ Hid (Below w.heap.size w wr))
  case atStart => exact ⟨a, HA, HB, rfl, HK, Below.refl _ _⟩
  case round =>
    clear HA HB HK
    obtain ⟨m, HM, HG, HE, HK, HB⟩ := hrel
    obtain ⟨ad, n', cap, hv, hlen⟩ := HG.out.len
    subst hv
    rcases Nat.eq_zero_or_pos gk with h0 | hpos
    · have hn0 : n' = 0 := hlen.2 h0
      subst hn0
      clear hlen
      go_wp2_with fail
      go_ret
      exact ⟨_, rfl, by rw [← HE.out, h0, Nat.gcd_zero_right]; exact HM.out, HB.out⟩
    · have hn0 : (0 : Int) < (n' : Int) := by
        have : n' ≠ 0 := fun h => by have := hlen.1 h; omega
        omega
      have hpart := BigPart_any k hk m HK.out.1 _ gk rfl hpos (Nat.lt_trans HK.out.2 (Nat.pow_lt_pow_right (by decide) (by omega))) u0 _ wr HM.out HG.out
      clear hlen
      go_wp2_with fail
      refine hpart.mono ?_
      clear hpart
      rintro e w1 ⟨q, r, rfl, hq, hr, hb1⟩
      go_wp2_with fail
      go_roundg (m % gk)
      case measure => exact Nat.mod_lt _ hpos
      case rel => exact ⟨gk, HG.out.later hb1, hr, by show Nat.gcd gk (m % gk) = _; rw [← HE.out, gcd_round], ⟨HK.out.2, Nat.lt_trans (Nat.mod_lt _ hpos) HK.out.2⟩, below_chain HB.out hb1⟩

theorem bv_drop_step {x : List Nat} {j : Nat} (h : j < x.length) : bv (x.drop j) = bv (x.drop (j + 1)) * 1000000 + x.getD j 0 := by
  rw [List.drop_eq_getElem_cons h, List.getD_eq_getElem?_getD, List.getElem?_eq_getElem h]
  simp only [bv, Option.getD_some]
  omega
theorem bv_drop_le (x : List Nat) (j : Nat) : bv (x.drop j) ≤ bv x := by
  have h1 := bv_append (x.take j) (x.drop j)
  rw [List.take_append_drop] at h1
  have h2 : 1 * bv (x.drop j) ≤ 1000000 ^ (x.take j).length * bv (x.drop j) := Nat.mul_le_mul_right _ (Nat.pow_pos (by decide))
  omega

set_option maxRecDepth 10000 in
set_option maxHeartbeats 1000000 in
theorem BigInt_any (u : Value) (n : Nat) (w : World) (h : BigAt w u n) (hn : n ≤ 4611686018427387904) :
    Calls Tryd.prog 36 #[u] w fun e w' => e = .returned (.tuple #[.int .i64 n, .bool true]) ∧ w' = w := by
  obtain ⟨x, hx1, hx2, rfl, hx⟩ := h
  have hlen : x.length ≤ 1000000 := by
    have := len_le_of_lt (k := 10) hx2 (Nat.lt_of_le_of_lt hn (by decide))
    omega
  obtain ⟨ad, cap, rfl⟩ := hx.form
  have HX := Hid.mk' hx
  have HD := Hid.mk' hx1
  have HN := Hid.mk' hn
  clear hx1 hx2 hx hn
  go_enter Tryd.func36, Tryd.ntmps36
  go_wp2_with fail
  go_loop [4, 5] (fun s t => ∃ (k z : Nat), k ≤ x.length ∧ z ≤ 4611686018427387904 ∧ s = .int .i64 z ∧ t = .int .i64 ((k : Int) - 1) ∧ Hid (z = bv (x.drop k))) (fun _ t => (intOf t + 1).toNat)
  case atStart => exact ⟨x.length, 0, Nat.le_refl _, by omega, rfl, rfl, by show _ = _; simp [bv]⟩
  case round =>
    obtain ⟨k, z, hk, hz, rfl, rfl, HZ⟩ := hrel
    rcases Nat.eq_zero_or_pos k with rfl | hpos
    · go_wp2_with fail
      go_ret2
      have := HZ.out
      rw [List.drop_zero] at this
      refine ⟨?_, rfl⟩
      rw [← this]
      simp
      omega
    · obtain ⟨j, rfl⟩ : ∃ j, k = j + 1 := ⟨k - 1, by omega⟩
      obtain ⟨b1, o1, rfl, hc1⟩ := HX.out.cellAt (show j < x.length by omega)
      have hst := bv_drop_step (show j < x.length by omega)
      have hle := bv_drop_le x j
      have hdx := HD.out j (by omega)
      rw [← HZ.out] at hst
      obtain ⟨d, hd⟩ : ∃ d : Nat, d = x.getD j 0 := ⟨_, rfl⟩
      rw [← hd] at hc1 hdx hst
      clear hd
      have hn' := HN.out
      have hzb : z ≤ 4611686018427 := by omega
      have hzs : z * 1000000 + d ≤ 4611686018427387904 := by omega
      have HST := Hid.mk' hst
      clear hst hle hn'
      have i0 : (0 : Int) ≤ (j : Int) := by omega
      have i1 : (j : Int) < (x.length : Int) := by omega
      have hjj : ((j + 1 : Nat) : Int) - 1 = (j : Int) := by omega
      rw [hjj]
      clear hjj
      go_wp2_with fail
      exact ⟨⟨j, z * 1000000 + d, by omega, hzs, by congr 1, rfl, HST.out.symm⟩, by simp [intOf]⟩
end Go.Proofs.YtiegobkbinojeaaDoor
