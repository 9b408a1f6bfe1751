/- The document's whole numbers of any size: BigOf, trimmed, BigAdd, BigCmp. -/
import Derived.Test.YtiegobkbinojeaaDoorBigMath
import Derived.Test.YtiegobkbinojeaaDoorOwn
namespace Go.Proofs.YtiegobkbinojeaaDoor
open Go.RowKit

/-- A slice of digits. -/
def IntsAt (w : World) (v : Value) (l : List Nat) : Prop := (∃ ad cap, v = .slice ad 0 cap ∧ l = []) ∨ ∃ b o cap, v = .slice (some ⟨b, o, none⟩) l.length cap ∧ l.length ≤ cap ∧ 0 < l.length ∧ ∀ i, i < l.length → w.cell? ⟨b, o + i, none⟩ = some (.int .i64 ((l.getD i 0 : Nat) : Int))
theorem IntsAt.later {w w' : World} {v : Value} {l : List Nat} (h : IntsAt w v l) (hb : Below w.heap.size w w') : IntsAt w' v l := by
  rcases h with h | ⟨b, o, cap, h1, h2, h3, h4⟩
  · exact Or.inl h
  · exact Or.inr ⟨b, o, cap, h1, h2, h3, fun i hi => by rw [hb.cell (cell_lt (h4 i hi))]; exact h4 i hi⟩
/-- A whole number of any size. -/
def BigAt (w : World) (v : Value) (n : Nat) : Prop := ∃ l, Dig l ∧ NoTail l ∧ bv l = n ∧ IntsAt w v l
theorem BigAt.later {w w' : World} {v : Value} {n : Nat} (h : BigAt w v n) (hb : Below w.heap.size w w') : BigAt w' v n := by
  obtain ⟨l, h1, h2, h3, h4⟩ := h
  exact ⟨l, h1, h2, h3, h4.later hb⟩

set_option maxRecDepth 10000 in
set_option maxHeartbeats 1000000 in
theorem trimmed_some (b o cap : Nat) (l : List Nat) (w : World) (hcap : l.length ≤ cap) (hcm : cap ≤ maxLen) (hc : ∀ i, i < l.length → w.cell? ⟨b, o + i, none⟩ = some (.int .i64 ((l.getD i 0 : Nat) : Int))) :
    Calls Tryd.prog 63 #[.slice (some ⟨b, o, none⟩) l.length cap] w fun e w' => ∃ k, e = .returned (.slice (some ⟨b, o, none⟩) k cap) ∧ k ≤ l.length ∧ (∀ i, k ≤ i → i < l.length → l.getD i 0 = 0) ∧ NoTail (l.take k) ∧ w' = w := by
  have HC := Hid.mk' hc
  unfold maxLen at hcm
  clear hc
  go_enter Tryd.func63, Tryd.ntmps63
  go_wp2_with fail
  go_loop [3] (fun t => ∃ k : Nat, k ≤ l.length ∧ t = .int .i64 k ∧ Hid (∀ i, k ≤ i → i < l.length → l.getD i 0 = 0)) (fun t => (intOf t).toNat)
  case atStart => exact ⟨l.length, Nat.le_refl _, rfl, fun i h1 h2 => by omega⟩
  case round =>
    obtain ⟨k, hk, rfl, HZ⟩ := hrel
    rcases Nat.eq_zero_or_pos k with rfl | hpos
    · go_wp2_with fail
      go_ret
      exact ⟨0, rfl, by omega, HZ.out, fun i hi => by simp at hi, rfl⟩
    · obtain ⟨j, rfl⟩ : ∃ j, k = j + 1 := ⟨k - 1, by omega⟩
      have hcj := HC.out j (by omega)
      have i0 : (0 : Int) ≤ (j : Int) := by omega
      have i1 : (j : Int) < (l.length : Int) := by omega
      obtain ⟨d, hd⟩ : ∃ d : Nat, d = l.getD j 0 := ⟨_, rfl⟩
      have HD := Hid.mk' hd
      rw [← hd] at hcj
      clear hd
      by_cases hz : d = 0
      · have hzb : ((d : Int) == 0) = true := by simp [hz]
        have HZ' : Hid (∀ i, j ≤ i → i < l.length → l.getD i 0 = 0) := fun i h1 h2 => by
          rcases Nat.lt_or_ge j i with h' | h'
          · exact HZ.out i (by omega) h2
          · obtain rfl : i = j := by omega
            rw [← HD.out]; exact hz
        clear hz HZ
        go_wp2_with fail
        exact ⟨⟨j, by omega, by go_num, HZ'⟩, by simp [intOf]⟩
      · have hzb : ((d : Int) == 0) = false := by simp; omega
        have HN : Hid (NoTail (l.take (j + 1))) := fun i hi => by
          have : i = j := by simp at hi; omega
          subst this
          rw [getD_take (by omega), ← HD.out]; exact hz
        clear hz
        go_wp2_with fail
        go_ret
        exact ⟨j + 1, rfl, hk, HZ.out, HN.out, rfl⟩

theorem trimmed_none (ad : Option Addr) (cap : Nat) (w : World) :
    Calls Tryd.prog 63 #[.slice ad 0 cap] w fun e w' => (∃ ad' cap', e = .returned (.slice ad' 0 cap')) ∧ w' = w := by
  go_enter Tryd.func63, Tryd.ntmps63
  go_wp2_with fail
  refine wp_loop_rounds 1 ?_
  rw [rounds_succ]
  go_wp2_with fail
  go_ret
  exact ⟨⟨ad, cap, rfl⟩, rfl⟩

/-- trimmed: the same number, with no nought at its end. -/
theorem trimmed_at (v : Value) (l : List Nat) (w : World) (hd : Dig l) (h : IntsAt w v l) (hcm : ∀ ad n cap, v = .slice ad n cap → cap ≤ maxLen) :
    Calls Tryd.prog 63 #[v] w fun e w' => ∃ v', e = .returned v' ∧ BigAt w v' (bv l) ∧ w' = w := by
  rcases h with ⟨ad, cap, rfl, rfl⟩ | ⟨b, o, cap, rfl, h2, h3, h4⟩
  · refine (trimmed_none ad cap w).mono ?_
    rintro e w' ⟨⟨ad', cap', rfl⟩, hw⟩
    exact ⟨_, rfl, ⟨[], (fun i hi => by simp at hi), (fun i hi => by simp at hi), rfl, Or.inl ⟨ad', cap', rfl, rfl⟩⟩, hw⟩
  · refine (trimmed_some b o cap l w h2 (hcm _ _ _ rfl) h4).mono ?_
    rintro e w' ⟨k, rfl, hk, hz, hn, hw⟩
    refine ⟨_, rfl, ⟨l.take k, hd.take k, hn, bv_zeros l k hk hz, ?_⟩, hw⟩
    rcases Nat.eq_zero_or_pos k with rfl | hpos
    · exact Or.inl ⟨_, _, rfl, by simp⟩
    · have hlen : (l.take k).length = k := by simp; omega
      refine Or.inr ⟨b, o, cap, by rw [hlen], by omega, by omega, fun i hi => ?_⟩
      rw [getD_take (by omega)]
      exact h4 i (by omega)

theorem Tryd.infoInt : (Tryd.prog.info? 3).map (fun i => (i.zero, i.size, i.bytes)) = some (some (.int .i64 0), 1, 8) := by kernel_rfl

/-- Digits as cells. -/
def digCells (l : List Nat) : List Value := l.map fun d => .int .i64 ((d : Nat) : Int)
theorem digCells_push (l : List Nat) (d : Nat) : digCells (l ++ [d]) = digCells l ++ [.int .i64 (d : Int)] := by simp [digCells]
theorem intsAt_of_row {w : World} {base : Nat} {v : Value} {l : List Nat} (h : w.ownsRow base 3 1 v l.length (digCells l)) : IntsAt w v l ∧ ∀ ad n cap, v = .slice ad n cap → cap ≤ maxLen := by
  obtain ⟨hl, hr⟩ := h
  rcases hr with ⟨rfl, h0⟩ | ⟨g, cap, cur, rfl, hg, hh, h1, h2, h3, h4⟩
  · exact ⟨Or.inl ⟨none, 0, by rfl, List.eq_nil_of_length_eq_zero h0⟩, fun ad n cap e => by cases e; unfold maxLen; omega⟩
  · refine ⟨?_, fun ad n c e => by cases e; exact h2⟩
    rcases Nat.eq_zero_or_pos l.length with h0 | hpos
    · exact Or.inl ⟨_, _, by rw [h0], List.eq_nil_of_length_eq_zero h0⟩
    · refine Or.inr ⟨g, 0, cap, rfl, h1, hpos, fun i hi => ?_⟩
      have e1 : w.cell? ⟨g, 0 + i, none⟩ = cur.toList[i]? := by simp [World.cell?, hh]
      have e2 : cur.toList[i]? = (digCells l)[i]? := by rw [← h4, List.getElem?_take_of_lt (by omega)]
      rw [e1, e2]
      simp [digCells, hi]
theorem one_new (w : World) (x : Value) (t : TypeId) (j : Nat) (u : Value) (h : [x][j]? = some u) : (w.alloc (.cells #[x] t)).cell? ((⟨w.heap.size, 0, none⟩ : Addr).add j) = some u := by
  rw [add_plain, World.cell?_alloc_at _ _ _ _ rfl, Nat.zero_add]
  rcases j with _ | j
  · simpa using h
  · simp at h

theorem below_push {w wr w3 : World} {v : Value} {e : TypeId} {size n : Nat} {xs : List Value} {X : Obj} (hB : Below w.heap.size w wr) (hR : wr.ownsRow w.heap.size e size v n xs) (hg : (wr.alloc X).grownBy w3 v.ownBlock) : Below w.heap.size w w3 :=
  (hB.alloc hB.size _).grown hg (by have := hB.size; simp; omega) (fun k e => (hR.lt k e).1)
theorem push_step {l : List Nat} {m n : Nat} (h : bv l + 1000000 ^ l.length * m = n) : bv (l ++ [m % 1000000]) + 1000000 ^ (l ++ [m % 1000000]).length * (m / 1000000) = n := by
  rw [bv_append, bv_single, List.length_append, List.length_singleton, Nat.pow_succ, Nat.add_assoc, Nat.mul_assoc, ← Nat.mul_add, Nat.mod_add_div]
  exact h

set_option maxRecDepth 10000 in
set_option maxHeartbeats 1000000 in
theorem BigOf_any (n : Nat) (w : World) (hn : n ≤ 4611686018427387904) :
    Calls Tryd.prog 34 #[.int .i64 n] w fun e w' => ∃ v, e = .returned v ∧ BigAt w' v n ∧ Below w.heap.size w w' := by
  obtain ⟨i0, hi, hz0, hz1, hz2⟩ := info_parts Tryd.infoInt
  have HINF : Hid (Tryd.prog.info? 3 = some i0 ∧ i0.zero = some (.int .i64 0) ∧ i0.size = 1 ∧ i0.bytes = 8) := ⟨hi, hz0, hz1, hz2⟩
  clear hi hz0 hz1 hz2
  go_enter Tryd.func34, Tryd.ntmps34
  go_wp2_with fail
  go_loopw [0, 3] (fun t v wr => ∃ (m : Nat) (l : List Nat), t = .int .i64 m ∧ m ≤ 4611686018427387904 ∧ l.length ≤ 10 ∧ Hid (m * 1000000 ^ l.length ≤ n) ∧ Hid (bv l + 1000000 ^ l.length * m = n ∧ Dig l ∧ (m = 0 → NoTail l)) ∧ Hid (wr.ownsRow w.heap.size 3 1 v l.length (digCells l)) ∧ Hid (Below w.heap.size w wr)) (fun t _ _ => (intOf t).toNat)
  case atStart => exact ⟨n, [], rfl, hn, by simp, by show _ ≤ _; simp, ⟨by simp [bv], (fun i hi => by simp at hi), (fun _ i hi => by simp at hi)⟩, ⟨rfl, Or.inl ⟨rfl, rfl⟩⟩, Below.refl _ _⟩
  case round =>
    obtain ⟨m, l, rfl, hm, hl, HM, HV, HR, HB⟩ := hrel
    by_cases hpos : 0 < m
    · have hl2 : l.length ≤ 3 := by
        rcases Nat.lt_or_ge 3 l.length with h' | h'
        · have h1 : 1000000 ^ 4 ≤ 1000000 ^ l.length := Nat.pow_le_pow_right (by decide) h'
          have h2 := HM.out
          have h3 : 1 * 1000000 ^ l.length ≤ m * 1000000 ^ l.length := Nat.mul_le_mul_right _ hpos
          have h4 : 1000000 ^ 4 = 1000000000000000000000000 := by decide
          omega
        · exact h'
      have hz := HB.out.size
      have hposI : (0 : Int) < (m : Int) := by omega
      go_wp2_with (at_builtin; go_must (refine wpList_append_lies _ rfl _ _ _ rfl w.heap.size 3 i0 _ 1 8 Tryd.underlying46 HINF.out.1 HINF.out.2.1 HINF.out.2.2.1 HINF.out.2.2.2 rfl (by omega) u3 _ _ rfl (HR.out.alloc _) ⟨wr.heap.size, 0, none⟩ 1 1 [.int .i64 ((m : Int) % 1000000)] rfl rfl (one_new _ _ _) (by simp [Value.oneCell']) (by omega) (by unfold maxLen; omega) (by omega) (by simp; omega) _ rfl ?_; intro g' cap' w3 hown3 hgrow3 hat3 hlt3; have HO3 := Hid.mk' hown3; have HG3 := Hid.mk' hgrow3; clear hown3 hgrow3 hat3))
      have hmi : (m : Int) % 1000000 = ((m % 1000000 : Nat) : Int) := by omega
      have hdi : (m : Int) / 1000000 = ((m / 1000000 : Nat) : Int) := by omega
      obtain ⟨h1, h2, h3⟩ := HV.out
      refine ⟨⟨m / 1000000, l ++ [m % 1000000], by rw [hdi], by omega, by simp; omega, ?_, ⟨push_step h1, h2.push (Nat.mod_lt _ (by decide)), fun h0 i hi => ?_⟩, ?_, below_push HB.out HR.out HG3.out⟩, by simp only [intOf]; omega⟩
      · show _ ≤ _
        have := push_step h1
        rw [Nat.mul_comm]; omega
      · have : i = l.length := by simp at hi; omega
        subst this
        rw [getD_append_last]
        omega
      · have := HO3.out
        rw [hmi] at this
        show World.ownsRow _ _ _ _ _ _ _
        rw [digCells_push]
        simpa using this
    · go_wp2_with fail
      go_ret
      obtain rfl : m = 0 := by omega
      obtain ⟨h1, h2, h3⟩ := HV.out
      exact ⟨_, rfl, ⟨l, h2, h3 rfl, by simpa using h1, (intsAt_of_row HR.out).1⟩, HB.out⟩

/-- BigCmp tells which is greater. -/
def cmpOf (a b : Nat) : Int := if a < b then -1 else if b < a then 1 else 0
theorem cmpOf_lt {a b : Nat} (h : a < b) : cmpOf a b = -1 := by unfold cmpOf; rw [if_pos h]
theorem cmpOf_gt {a b : Nat} (h : b < a) : cmpOf a b = 1 := by unfold cmpOf; rw [if_neg (by omega), if_pos h]
theorem cmpOf_eq {a b : Nat} (h : a = b) : cmpOf a b = 0 := by unfold cmpOf; rw [if_neg (by omega), if_neg (by omega)]

theorem IntsAt.form {w : World} {v : Value} {l : List Nat} (h : IntsAt w v l) : ∃ ad cap, v = .slice ad l.length cap := by
  rcases h with ⟨ad, cap, rfl, rfl⟩ | ⟨b, o, cap, rfl, _⟩
  · exact ⟨_, _, rfl⟩
  · exact ⟨_, _, rfl⟩

set_option maxRecDepth 10000 in
set_option maxHeartbeats 1000000 in
theorem BigCmp_same (b1 o1 c1 b2 o2 c2 : Nat) (x y : List Nat) (w : World) (hx : Dig x) (hy : Dig y) (hl : x.length = y.length) (hn : x.length ≤ 1000000)
    (h1 : ∀ i, i < x.length → w.cell? ⟨b1, o1 + i, none⟩ = some (.int .i64 ((x.getD i 0 : Nat) : Int))) (h2 : ∀ i, i < x.length → w.cell? ⟨b2, o2 + i, none⟩ = some (.int .i64 ((y.getD i 0 : Nat) : Int))) :
    Calls Tryd.prog 35 #[.slice (some ⟨b1, o1, none⟩) x.length c1, .slice (some ⟨b2, o2, none⟩) x.length c2] w fun e w' => e = .returned (.int .i64 (cmpOf (bv x) (bv y))) ∧ ∃ m, w' = w.drewN m := by
  have H1 := Hid.mk' h1
  have H2 := Hid.mk' h2
  have HX := Hid.mk' hx
  have HY := Hid.mk' hy
  have HL := Hid.mk' hl
  clear h1 h2 hx hy hl
  go_enter Tryd.func35, Tryd.ntmps35
  go_wp2_with fail
  go_loopw [5] (fun t wr => ∃ k m : Nat, k ≤ x.length ∧ t = .int .i64 ((k : Int) - 1) ∧ Hid (∀ i, k ≤ i → i < x.length → x.getD i 0 = y.getD i 0) ∧ wr = w.drewN m) (fun t _ => (intOf t + 1).toNat)
  case atStart => exact ⟨x.length, 0, Nat.le_refl _, rfl, fun i h1 h2 => by omega, rfl⟩
  case round =>
    obtain ⟨k, m, hk, rfl, HE, rfl⟩ := hrel
    rcases Nat.eq_zero_or_pos k with rfl | hpos
    · have he : x = y := list_ext_getD HL.out (fun i hi => HE.out i (by omega) hi)
      go_wp2_with fail
      go_ret
      exact ⟨ret_int (cmpOf_eq (by rw [he])).symm, m, rfl⟩
    · obtain ⟨j, rfl⟩ : ∃ j, k = j + 1 := ⟨k - 1, by omega⟩
      have y1 := H1.out j (by omega)
      have y2 := H2.out j (by omega)
      have i0 : (0 : Int) ≤ (j : Int) := by omega
      have i1 : (j : Int) < (x.length : Int) := by omega
      obtain ⟨d, hd⟩ : ∃ d : Nat, d = x.getD j 0 := ⟨_, rfl⟩
      obtain ⟨f, hf⟩ : ∃ f : Nat, f = y.getD j 0 := ⟨_, rfl⟩
      rw [← hd] at y1
      rw [← hf] at y2
      have HD := Hid.mk' hd
      have HF := Hid.mk' hf
      clear hd hf
      have hjj : ((j + 1 : Nat) : Int) - 1 = (j : Int) := by omega
      rw [hjj]
      clear hjj
      rcases Nat.lt_trichotomy d f with hlt | heq | hgt
      · have hres : Hid (cmpOf (bv x) (bv y) = -1) := cmpOf_lt (bv_lt_of_place HX.out j (by omega) HL.out (fun i h1 h2 => HE.out i (by omega) h2) (by rw [← HD.out, ← HF.out]; exact hlt))
        have hltI : (d : Int) < (f : Int) := by omega
        go_wp2_with fail
        go_quiet (fail)
        go_wp2_with fail
        go_ret
        refine ⟨ret_int hres.out.symm, ?_⟩
        simp only [World.drewN_drewN]
        exact ⟨_, rfl⟩
      · subst heq
        have HE' : Hid (∀ i, j ≤ i → i < x.length → x.getD i 0 = y.getD i 0) := fun i h1 h2 => by
          rcases Nat.lt_or_ge j i with h' | h'
          · exact HE.out i (by omega) h2
          · obtain rfl : i = j := by omega
            rw [← HD.out, ← HF.out]
        clear HE
        go_wp2_with fail
        go_quiet (fail)
        go_wp2_with fail
        go_quiet (fail)
        go_wp2_with fail
        exact ⟨⟨j, _, by omega, rfl, HE', rfl⟩, by simp [intOf]⟩
      · have hres : Hid (cmpOf (bv x) (bv y) = 1) := cmpOf_gt (bv_lt_of_place HY.out j (by have := HL.out; omega) HL.out.symm (fun i h1 h2 => (HE.out i (by omega) (by have := HL.out; omega)).symm) (by rw [← HD.out, ← HF.out]; exact hgt))
        have hltI : (f : Int) < (d : Int) := by omega
        go_wp2_with fail
        go_quiet (fail)
        go_wp2_with fail
        go_quiet (fail)
        go_wp2_with fail
        go_ret
        refine ⟨ret_int hres.out.symm, ?_⟩
        simp only [World.drewN_drewN]
        exact ⟨_, rfl⟩

theorem BigCmp_less (a1 a2 : Option Addr) (n1 n2 c1 c2 : Nat) (w : World) (h : n1 < n2) :
    Calls Tryd.prog 35 #[.slice a1 n1 c1, .slice a2 n2 c2] w fun e w' => e = .returned (.int .i64 (-1)) ∧ w' = w := by
  have h1 : ((n1 : Int) != (n2 : Int)) = true := by simp; omega
  have h2 : (n1 : Int) < (n2 : Int) := by omega
  go_enter Tryd.func35, Tryd.ntmps35
  go_wp2_with fail
  go_ret
  exact ⟨rfl, rfl⟩
theorem BigCmp_more (a1 a2 : Option Addr) (n1 n2 c1 c2 : Nat) (w : World) (h : n2 < n1) :
    Calls Tryd.prog 35 #[.slice a1 n1 c1, .slice a2 n2 c2] w fun e w' => e = .returned (.int .i64 1) ∧ w' = w := by
  have h1 : ((n1 : Int) != (n2 : Int)) = true := by simp; omega
  have h2 : ¬ (n1 : Int) < (n2 : Int) := by omega
  go_enter Tryd.func35, Tryd.ntmps35
  go_wp2_with fail
  go_ret
  exact ⟨rfl, rfl⟩
theorem BigCmp_zero (a1 a2 : Option Addr) (c1 c2 : Nat) (w : World) :
    Calls Tryd.prog 35 #[.slice a1 0 c1, .slice a2 0 c2] w fun e w' => e = .returned (.int .i64 0) ∧ w' = w := by
  go_enter Tryd.func35, Tryd.ntmps35
  go_wp2_with fail
  refine wp_loop_rounds 1 ?_
  rw [rounds_succ]
  go_wp2_with fail
  go_ret
  exact ⟨rfl, rfl⟩

/-- BigCmp of any two that are not of a million digits. -/
theorem BigCmp_any (u v : Value) (a b k : Nat) (w : World) (ha : BigAt w u a) (hb : BigAt w v b) (hka : a < 1000000 ^ k) (hkb : b < 1000000 ^ k) (hk : k ≤ 1000000) :
    Calls Tryd.prog 35 #[u, v] w fun e w' => e = .returned (.int .i64 (cmpOf a b)) ∧ ∃ m, w' = w.drewN m := by
  obtain ⟨x, hx1, hx2, rfl, hx⟩ := ha
  obtain ⟨y, hy1, hy2, rfl, hy⟩ := hb
  have lx := len_le_of_lt hx2 hka
  have ly := len_le_of_lt hy2 hkb
  rcases Nat.lt_trichotomy x.length y.length with h | h | h
  · obtain ⟨ad, cap, rfl⟩ := hx.form
    obtain ⟨ad', cap', rfl⟩ := hy.form
    exact (BigCmp_less ad ad' _ _ cap cap' w h).mono fun e w' ⟨he, hw⟩ => ⟨by rw [he, cmpOf_lt (bv_lt_of_len hx1 hy2 h)], 0, hw⟩
  · rcases hx with ⟨ad, cap, rfl, rfl⟩ | ⟨b1, o1, c1, rfl, h1, h2, h3⟩
    · obtain ⟨ad', cap', rfl⟩ := hy.form
      have hy0 : y = [] := List.eq_nil_of_length_eq_zero h.symm
      subst hy0
      exact (BigCmp_zero ad ad' cap cap' w).mono fun e w' ⟨he, hw⟩ => ⟨by rw [he, cmpOf_eq rfl], 0, hw⟩
    · rcases hy with ⟨ad', cap', rfl, rfl⟩ | ⟨b2, o2, c2, rfl, h4, h5, h6⟩
      · exact absurd h (by simp; intro h0; rw [h0] at h2; simp at h2)
      · have := BigCmp_same b1 o1 c1 b2 o2 c2 x y w hx1 hy1 h (by omega) h3 (fun i hi => h6 i (by omega))
        rw [← h]
        exact this
  · obtain ⟨ad, cap, rfl⟩ := hx.form
    obtain ⟨ad', cap', rfl⟩ := hy.form
    exact (BigCmp_more ad ad' _ _ cap cap' w h).mono fun e w' ⟨he, hw⟩ => ⟨by rw [he, cmpOf_gt (bv_lt_of_len hy1 hx2 h)], 0, hw⟩

theorem add_step {x y l : List Nat} {k c d f : Nat} (hk : l.length = k) (h : bv l + 1000000 ^ k * c = bv (x.take k) + bv (y.take k)) (hd : bv (x.take (k + 1)) = bv (x.take k) + 1000000 ^ k * d) (hf : bv (y.take (k + 1)) = bv (y.take k) + 1000000 ^ k * f) :
    bv (l ++ [(c + d + f) % 1000000]) + 1000000 ^ (k + 1) * ((c + d + f) / 1000000) = bv (x.take (k + 1)) + bv (y.take (k + 1)) := by
  rw [bv_append, bv_single, hk, Nat.pow_succ, Nat.add_assoc, Nat.mul_assoc, ← Nat.mul_add, Nat.mod_add_div, hd, hf, Nat.mul_add, Nat.mul_add]
  omega

/-- The digit of a number at a place: 0 behind its end. -/
theorem bv_take_digit (x : List Nat) (k : Nat) : bv (x.take (k + 1)) = bv (x.take k) + 1000000 ^ k * x.getD k 0 := by
  rcases Nat.lt_or_ge k x.length with h | h
  · exact bv_take_succ x k h
  · rw [bv_take_ge x (k + 1) (by omega), bv_take_ge x k h, List.getD_eq_getElem?_getD, List.getElem?_eq_none h]
    simp

theorem getD_ge {x : List Nat} {k : Nat} (h : ¬ k < x.length) : x.getD k 0 = 0 := by
  rw [List.getD_eq_getElem?_getD, List.getElem?_eq_none (by omega)]; rfl
theorem IntsAt.cellAt {w : World} {ad : Option Addr} {n cap : Nat} {l : List Nat} (h : IntsAt w (.slice ad n cap) l) {k : Nat} (hk : k < l.length) : ∃ b o, ad = some ⟨b, o, none⟩ ∧ w.cell? ⟨b, o + k, none⟩ = some (.int .i64 ((l.getD k 0 : Nat) : Int)) := by
  rcases h with ⟨_, _, _, rfl⟩ | ⟨b, o, c, h1, _, _, h4⟩
  · simp at hk
  · simp only [Value.slice.injEq] at h1
    exact ⟨b, o, h1.1, h4 k hk⟩

/-- The round's end: one digit more. -/
theorem add_close {w wr w3 : World} {sv : Value} {x y l : List Nat} {k c : Nat} {e : Int} {g cap : Nat} {X : Obj} (hx : Dig x) (hy : Dig y) (hc : c ≤ 1) (hlx : x.length ≤ 1000000) (hly : y.length ≤ 1000000)
    (hln : l.length = k) (hv : bv l + 1000000 ^ k * c = bv (x.take k) + bv (y.take k)) (hd : Dig l) (hr : wr.ownsRow w.heap.size 3 1 sv l.length (digCells l)) (hb : Below w.heap.size w wr)
    (hm : k ≤ max x.length y.length + 1 ∧ (k = max x.length y.length + 1 → c = 0)) (hgo : k < x.length ∨ k < y.length ∨ 0 < c) (he : e = ((c + x.getD k 0 + y.getD k 0 : Nat) : Int))
    (hg : (wr.alloc X).grownBy w3 sv.ownBlock) (ho : w3.ownsRow w.heap.size 3 1 (.slice (some ⟨g, 0, none⟩) (l.length + 1) cap) (l.length + 1) (digCells l ++ [.int .i64 (e % 1000000)])) :
    ∃ (k' c' : Nat) (l' : List Nat), Value.int .i64 ((k : Int) + 1) = .int .i64 k' ∧ Value.int .i64 (e / 1000000) = .int .i64 c' ∧ c' ≤ 1 ∧ k' ≤ 1000002 ∧ Hid (l'.length = k') ∧ Hid (bv l' + 1000000 ^ k' * c' = bv (x.take k') + bv (y.take k')) ∧ Hid (Dig l') ∧ Hid (w3.ownsRow w.heap.size 3 1 (.slice (some ⟨g, 0, none⟩) (l.length + 1) cap) l'.length (digCells l')) ∧ Hid (Below w.heap.size w w3) ∧ Hid (k' ≤ max x.length y.length + 1 ∧ (k' = max x.length y.length + 1 → c' = 0)) := by
  have hdx : x.getD k 0 < 1000000 := by
    by_cases h : k < x.length
    · exact hx k h
    · rw [getD_ge h]; decide
  have hdy : y.getD k 0 < 1000000 := by
    by_cases h : k < y.length
    · exact hy k h
    · rw [getD_ge h]; decide
  have hstep := add_step hln hv (bv_take_digit x k) (bv_take_digit y k)
  have hend : ¬ k < x.length → ¬ k < y.length → x.getD k 0 = 0 ∧ y.getD k 0 = 0 := fun h1 h2 => ⟨getD_ge h1, getD_ge h2⟩
  generalize x.getD k 0 = d at *
  generalize y.getD k 0 = f at *
  refine ⟨k + 1, (c + d + f) / 1000000, l ++ [(c + d + f) % 1000000], by congr 1, by congr 1; omega, by omega, by omega, by show _ = _; simp [hln], hstep, hd.push (Nat.mod_lt _ (by decide)), ?_, below_push hb hr hg, ⟨?_, ?_⟩⟩
  · show World.ownsRow _ _ _ _ _ _ _
    rw [digCells_push, show (((c + d + f) % 1000000 : Nat) : Int) = e % 1000000 from by omega]
    simpa using ho
  · rcases hgo with h | h | h <;> omega
  · intro hk'
    by_cases h1 : k < x.length
    · omega
    · by_cases h2 : k < y.length
      · omega
      · obtain ⟨rfl, rfl⟩ := hend h1 h2
        omega

set_option maxRecDepth 10000 in
set_option maxHeartbeats 2000000 in
theorem BigAdd_ints (u v : Value) (x y : List Nat) (w : World) (hx : Dig x) (hy : Dig y) (h1 : IntsAt w u x) (h2 : IntsAt w v y) (hlx : x.length ≤ 1000000) (hly : y.length ≤ 1000000) :
    Calls Tryd.prog 72 #[u, v] w fun e w' => ∃ r, e = .returned r ∧ BigAt w' r (bv x + bv y) ∧ Below w.heap.size w w' := by
  obtain ⟨i0, hi, hz0, hz1, hz2⟩ := info_parts Tryd.infoInt
  have HINF : Hid (Tryd.prog.info? 3 = some i0 ∧ i0.zero = some (.int .i64 0) ∧ i0.size = 1 ∧ i0.bytes = 8) := ⟨hi, hz0, hz1, hz2⟩
  clear hi hz0 hz1 hz2
  obtain ⟨a1, c1, rfl⟩ := h1.form
  obtain ⟨a2, c2, rfl⟩ := h2.form
  have H1 := Hid.mk' h1
  have H2 := Hid.mk' h2
  have HX := Hid.mk' hx
  have HY := Hid.mk' hy
  clear h1 h2 hx hy
  go_enter Tryd.func72, Tryd.ntmps72
  go_wp2_with fail
  go_loopw [5, 6, 7] (fun s t i wr => ∃ (k c : Nat) (l : List Nat), i = .int .i64 k ∧ t = .int .i64 c ∧ c ≤ 1 ∧ k ≤ 1000002 ∧ Hid (l.length = k) ∧ Hid (bv l + 1000000 ^ k * c = bv (x.take k) + bv (y.take k)) ∧ Hid (Dig l) ∧ Hid (wr.ownsRow w.heap.size 3 1 s l.length (digCells l)) ∧ Hid (Below w.heap.size w wr) ∧ Hid (k ≤ max x.length y.length + 1 ∧ (k = max x.length y.length + 1 → c = 0))) (fun _ t i _ => 2 * (max x.length y.length + 2) - 2 * (intOf i).toNat + (intOf t).toNat)
  case atStart => exact ⟨0, 0, [], rfl, rfl, by omega, by omega, rfl, by show _ = _; simp [bv], (fun i hi => by simp at hi), ⟨rfl, Or.inl ⟨rfl, rfl⟩⟩, Below.refl _ _, ⟨by omega, by omega⟩⟩
  case round =>
    obtain ⟨k, c, l, rfl, rfl, hc, hk, HLN, HV, HD, HR, HB, HM⟩ := hrel
    have hln1 : l.length ≤ k := by have := HLN.out; omega
    have hz := HB.out.size
    have i0' : (0 : Int) ≤ (k : Int) := by omega
    have hcI : (0 : Int) ≤ (c : Int) ∧ (c : Int) ≤ 1 := by omega
    by_cases hkx : k < x.length
    · obtain ⟨b1, o1, rfl, hc1⟩ := (H1.out.later HB.out).cellAt hkx
      have hdx := HX.out k hkx
      obtain ⟨d, hd⟩ : ∃ d : Nat, d = x.getD k 0 := ⟨_, rfl⟩
      have HDD := Hid.mk' hd
      rw [← hd] at hc1 hdx
      clear hd
      have j1 : (k : Int) < (x.length : Int) := by omega
      by_cases hky : k < y.length
      · obtain ⟨b2, o2, rfl, hc2⟩ := (H2.out.later HB.out).cellAt hky
        have hdy := HY.out k hky
        obtain ⟨f, hf⟩ : ∃ f : Nat, f = y.getD k 0 := ⟨_, rfl⟩
        have HFF := Hid.mk' hf
        rw [← hf] at hc2 hdy
        clear hf
        have j2 : (k : Int) < (y.length : Int) := by omega
        go_wp2_with (at_builtin; go_must (refine wpList_append_lies _ rfl _ _ _ rfl w.heap.size 3 i0 _ 1 8 Tryd.underlying46 HINF.out.1 HINF.out.2.1 HINF.out.2.2.1 HINF.out.2.2.2 rfl (by omega) u5 _ _ rfl (HR.out.alloc _) ⟨wr.heap.size, 0, none⟩ 1 1 [.int .i64 (((c : Int) + (d : Int) + (f : Int)) % 1000000)] rfl rfl (one_new _ _ _) (by simp [Value.oneCell']) (by omega) (by unfold maxLen; omega) (by omega) (by simp; omega) _ rfl ?_; intro g' cap' w3 hown3 hgrow3 hat3 hlt3; have HO3 := Hid.mk' hown3; have HG3 := Hid.mk' hgrow3; clear hown3 hgrow3 hat3))
        exact ⟨add_close HX.out HY.out hc hlx hly HLN.out HV.out HD.out HR.out HB.out HM.out (by omega) (by rw [← HDD.out, ← HFF.out]; omega) HG3.out HO3.out, by simp only [intOf]; have := HM.out.1; omega⟩
      · have j2 : ¬ (k : Int) < (y.length : Int) := by omega
        go_wp2_with (at_builtin; go_must (refine wpList_append_lies _ rfl _ _ _ rfl w.heap.size 3 i0 _ 1 8 Tryd.underlying46 HINF.out.1 HINF.out.2.1 HINF.out.2.2.1 HINF.out.2.2.2 rfl (by omega) u5 _ _ rfl (HR.out.alloc _) ⟨wr.heap.size, 0, none⟩ 1 1 [.int .i64 (((c : Int) + (d : Int)) % 1000000)] rfl rfl (one_new _ _ _) (by simp [Value.oneCell']) (by omega) (by unfold maxLen; omega) (by omega) (by simp; omega) _ rfl ?_; intro g' cap' w3 hown3 hgrow3 hat3 hlt3; have HO3 := Hid.mk' hown3; have HG3 := Hid.mk' hgrow3; clear hown3 hgrow3 hat3))
        exact ⟨add_close HX.out HY.out hc hlx hly HLN.out HV.out HD.out HR.out HB.out HM.out (by omega) (by rw [← HDD.out, getD_ge hky]; omega) HG3.out HO3.out, by simp only [intOf]; have := HM.out.1; omega⟩
    · have j1 : ¬ (k : Int) < (x.length : Int) := by omega
      by_cases hky : k < y.length
      · obtain ⟨b2, o2, rfl, hc2⟩ := (H2.out.later HB.out).cellAt hky
        have hdy := HY.out k hky
        obtain ⟨f, hf⟩ : ∃ f : Nat, f = y.getD k 0 := ⟨_, rfl⟩
        have HFF := Hid.mk' hf
        rw [← hf] at hc2 hdy
        clear hf
        have j2 : (k : Int) < (y.length : Int) := by omega
        go_wp2_with (at_builtin; go_must (refine wpList_append_lies _ rfl _ _ _ rfl w.heap.size 3 i0 _ 1 8 Tryd.underlying46 HINF.out.1 HINF.out.2.1 HINF.out.2.2.1 HINF.out.2.2.2 rfl (by omega) u5 _ _ rfl (HR.out.alloc _) ⟨wr.heap.size, 0, none⟩ 1 1 [.int .i64 (((c : Int) + (f : Int)) % 1000000)] rfl rfl (one_new _ _ _) (by simp [Value.oneCell']) (by omega) (by unfold maxLen; omega) (by omega) (by simp; omega) _ rfl ?_; intro g' cap' w3 hown3 hgrow3 hat3 hlt3; have HO3 := Hid.mk' hown3; have HG3 := Hid.mk' hgrow3; clear hown3 hgrow3 hat3))
        exact ⟨add_close HX.out HY.out hc hlx hly HLN.out HV.out HD.out HR.out HB.out HM.out (by omega) (by rw [← HFF.out, getD_ge hkx]; omega) HG3.out HO3.out, by simp only [intOf]; have := HM.out.1; omega⟩
      · have j2 : ¬ (k : Int) < (y.length : Int) := by omega
        by_cases hc0 : 0 < c
        · have hc0I : (0 : Int) < (c : Int) := by omega
          go_wp2_with (at_builtin; go_must (refine wpList_append_lies _ rfl _ _ _ rfl w.heap.size 3 i0 _ 1 8 Tryd.underlying46 HINF.out.1 HINF.out.2.1 HINF.out.2.2.1 HINF.out.2.2.2 rfl (by omega) u5 _ _ rfl (HR.out.alloc _) ⟨wr.heap.size, 0, none⟩ 1 1 [.int .i64 ((c : Int) % 1000000)] rfl rfl (one_new _ _ _) (by simp [Value.oneCell']) (by omega) (by unfold maxLen; omega) (by omega) (by simp; omega) _ rfl ?_; intro g' cap' w3 hown3 hgrow3 hat3 hlt3; have HO3 := Hid.mk' hown3; have HG3 := Hid.mk' hgrow3; clear hown3 hgrow3 hat3))
          exact ⟨add_close HX.out HY.out hc hlx hly HLN.out HV.out HD.out HR.out HB.out HM.out (by omega) (by rw [getD_ge hkx, getD_ge hky]; omega) HG3.out HO3.out, by simp only [intOf]; have := HM.out.1; omega⟩
        · have hc0I : ¬ (0 : Int) < (c : Int) := by omega
          obtain ⟨hI, hcap⟩ := intsAt_of_row HR.out
          have ht := trimmed_at u5 l wr HD.out hI hcap
          have hsum : Hid (bv l = bv x + bv y) := by
            have := HV.out
            rw [bv_take_ge x k (by omega), bv_take_ge y k (by omega), show c = 0 by omega] at this
            show _ = _
            simpa using this
          clear hI hcap
          go_wp2_with fail
          refine ht.mono ?_
          rintro e w4 ⟨r, rfl, hr, hw4⟩
          go_wp2_with fail
          go_ret
          exact ⟨r, rfl, by rw [← hsum.out]; exact hr, HB.out⟩
end Go.Proofs.YtiegobkbinojeaaDoor
