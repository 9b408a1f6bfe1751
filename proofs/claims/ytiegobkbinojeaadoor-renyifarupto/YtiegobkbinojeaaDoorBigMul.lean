/- The document's BigMul: times. -/
import Derived.Test.YtiegobkbinojeaaDoorBig
import Derived.OwnWalk
namespace Go.Proofs.YtiegobkbinojeaaDoor
open Go.RowKit

theorem bv_set : ∀ (l : List Nat) (j d : Nat), j < l.length → bv (l.set j d) + 1000000 ^ j * l.getD j 0 = bv l + 1000000 ^ j * d
  | [], j, d, h => by simp at h
  | e :: r, 0, d, _ => by simp [bv]; omega
  | e :: r, j + 1, d, h => by
    have := bv_set r j d (by simpa using h)
    simp only [List.set_cons_succ, bv, List.getD_cons_succ, Nat.pow_succ]
    have h1 : 1000000 ^ j * 1000000 * r.getD j 0 = 1000000 * (1000000 ^ j * r.getD j 0) := by grind
    have h2 : 1000000 ^ j * 1000000 * d = 1000000 * (1000000 ^ j * d) := by grind
    rw [h1, h2]
    omega
theorem getD_set_same {l : List Nat} {j d : Nat} (h : j < l.length) : (l.set j d).getD j 0 = d := by
  rw [List.getD_eq_getElem?_getD, List.getElem?_set_self h]; rfl
theorem getD_set_other {l : List Nat} {j i d : Nat} (h : j ≠ i) : (l.set j d).getD i 0 = l.getD i 0 := by
  rw [List.getD_eq_getElem?_getD, List.getElem?_set_ne h, ← List.getD_eq_getElem?_getD]
theorem Dig.set {l : List Nat} (h : Dig l) (j : Nat) {d : Nat} (hd : d < 1000000) : Dig (l.set j d) := fun i hi => by
  rw [List.length_set] at hi
  by_cases hj : j = i
  · subst hj; rw [getD_set_same hi]; exact hd
  · rw [getD_set_other hj]; exact h i hi
theorem digCells_set (l : List Nat) (j d : Nat) : (digCells l).set j (.int .i64 (d : Int)) = digCells (l.set j d) := by
  unfold digCells
  rw [List.map_set]
theorem digCells_length (l : List Nat) : (digCells l).length = l.length := by simp [digCells]
theorem digCells_get {l : List Nat} {j : Nat} (h : j < l.length) : (digCells l)[j]? = some (.int .i64 ((l.getD j 0 : Nat) : Int)) := by
  simp [digCells, h]
theorem digCells_zeros (n : Nat) : (madeCells (Value.int .i64 0).cells (n * 1)).toList = digCells (List.replicate n 0) := by
  rw [Nat.mul_one, show (Value.int .i64 0).cells = #[.int .i64 0] from rfl, toList_madeCells_one]
  simp [digCells]
theorem bv_replicate (n : Nat) : bv (List.replicate n 0) = 0 := by
  induction n with
  | zero => rfl
  | succ n ih => simp [List.replicate_succ, bv, ih]
theorem getD_replicate (n j : Nat) : (List.replicate n 0).getD j 0 = 0 := by
  rw [List.getD_eq_getElem?_getD]
  rcases Nat.lt_or_ge j n with h | h
  · rw [List.getElem?_replicate, if_pos h]; rfl
  · rw [List.getElem?_eq_none (by simpa using h)]; rfl

/-- One step of the inner loop. -/
theorem mul_step {l y : List Nat} {P i k c a t : Nat} (hj : i + k < l.length) (ht : t = c + l.getD (i + k) 0 + a * y.getD k 0) (h : bv l + 1000000 ^ (i + k) * c = P + 1000000 ^ i * (a * bv (y.take k))) :
    bv (l.set (i + k) (t % 1000000)) + 1000000 ^ (i + (k + 1)) * (t / 1000000) = P + 1000000 ^ i * (a * bv (y.take (k + 1))) := by
  have h1 := bv_set l (i + k) (t % 1000000) hj
  have h2 := bv_take_digit y k
  have h3 := Nat.mod_add_div t 1000000
  have h5 : 1000000 ^ (i + k) * (t % 1000000) + 1000000 ^ (i + (k + 1)) * (t / 1000000) = 1000000 ^ (i + k) * t := by
    rw [← Nat.add_assoc, Nat.pow_succ, Nat.mul_assoc, ← Nat.mul_add, h3]
  rw [h2, ht] at *
  have h4 : 1000000 ^ (i + k) = 1000000 ^ i * 1000000 ^ k := Nat.pow_add _ _ _
  have h6 : 1000000 ^ (i + k) * (c + l.getD (i + k) 0 + a * y.getD k 0) = 1000000 ^ (i + k) * c + 1000000 ^ (i + k) * l.getD (i + k) 0 + 1000000 ^ i * (a * (1000000 ^ k * y.getD k 0)) := by
    rw [h4]; grind
  have h7 : P + 1000000 ^ i * (a * (bv (y.take k) + 1000000 ^ k * y.getD k 0)) = P + 1000000 ^ i * (a * bv (y.take k)) + 1000000 ^ i * (a * (1000000 ^ k * y.getD k 0)) := by grind
  rw [h7]
  omega
/-- The inner loop's end. -/
theorem mul_row {l x y : List Nat} {i c : Nat} (hj : i + y.length < l.length) (h0 : l.getD (i + y.length) 0 = 0) (h : bv l + 1000000 ^ (i + y.length) * c = bv (x.take i) * bv y + 1000000 ^ i * (x.getD i 0 * bv (y.take y.length))) :
    bv (l.set (i + y.length) c) = bv (x.take (i + 1)) * bv y := by
  have h1 := bv_set l (i + y.length) c hj
  rw [h0, Nat.mul_zero, Nat.add_zero] at h1
  rw [List.take_length] at h
  rw [h1, h, bv_take_digit x i]
  grind

theorem mul_small {a b : Nat} (ha : a < 1000000) (hb : b < 1000000) : a * b ≤ 999998000001 := by
  have := Nat.mul_le_mul (show a ≤ 999999 by omega) (show b ≤ 999999 by omega)
  omega

set_option maxRecDepth 10000 in
set_option maxHeartbeats 2000000 in
theorem BigMul_ints (u v : Value) (x y : List Nat) (w : World) (hx : Dig x) (hy : Dig y) (h1 : IntsAt w u x) (h2 : IntsAt w v y) (hlx : x.length ≤ 1000000) (hly : y.length ≤ 1000000) :
    Calls Tryd.prog 48 #[u, v] w fun e w' => ∃ r, e = .returned r ∧ BigAt w' r (bv x * bv y) ∧ Below w.heap.size w w' := by
  obtain ⟨i0, hi, hz0, hz1, hz2⟩ := info_parts Tryd.infoInt
  have HINF : Hid (Tryd.prog.info? 3 = some i0 ∧ i0.zero = some (.int .i64 0) ∧ i0.size = 1 ∧ i0.bytes = 8) := ⟨hi, hz0, hz1, hz2⟩
  clear hi hz0 hz1 hz2
  obtain ⟨a1, c1, rfl⟩ := h1.form
  obtain ⟨a2, c2, rfl⟩ := h2.form
  have H1 := Hid.mk' h1
  have H2 := Hid.mk' h2
  have HX := Hid.mk' hx
  have HY := Hid.mk' hy
  clear h1 h2 hx hy
  go_enter Tryd.func48, Tryd.ntmps48
  go_wp2_with (at_make; go_must (refine wpList_make_full _ rfl _ _ _ rfl w.heap.size 3 i0 _ 1 Tryd.underlying46 HINF.out.1 HINF.out.2.1 HINF.out.2.2.1 _ _ _ _ (x.length + y.length) rfl rfl (by omega) (by omega) (by rw [HINF.out.2.2.2]; omega) (by unfold maxLen; omega) (Nat.le_refl _) ?_; intro w1 hown hgrow; have HO := Hid.mk' hown; have HG := Hid.mk' hgrow; clear hown hgrow))
  go_loopw [6] (fun t wr => ∃ (i : Nat) (l : List Nat), t = .int .i64 i ∧ i ≤ x.length ∧ Hid (l.length = x.length + y.length) ∧ Hid (bv l = bv (x.take i) * bv y ∧ Dig l ∧ ∀ j, i + y.length ≤ j → l.getD j 0 = 0) ∧ Hid (wr.ownsRow w.heap.size 3 1 (.slice (some ⟨w.heap.size, 0, none⟩) (x.length + y.length) (x.length + y.length)) (x.length + y.length) (digCells l)) ∧ Hid (Below w.heap.size w wr)) (fun t _ => x.length - (intOf t).toNat)
  case atStart =>
    have ho := HO.out
    rw [digCells_zeros] at ho
    exact ⟨0, List.replicate (x.length + y.length) 0, rfl, by omega, by show _ = _; simp, ⟨by rw [bv_replicate]; simp [bv], (fun i _ => by rw [getD_replicate]; decide), (fun j _ => getD_replicate _ _)⟩, ho, (Below.refl _ _).grown HG.out (Nat.le_refl _) (fun k h => by cases h)⟩
  case round =>
    clear HO HG
    obtain ⟨i, l, rfl, hi, HLN, HV, HO, HB⟩ := hrel
    by_cases hlt : i < x.length
    · obtain ⟨b1, o1, rfl, _⟩ := (H1.out.later HB.out).cellAt hlt
      have hiI : (i : Int) < (x.length : Int) := by omega
      have hi0 : (0 : Int) ≤ (i : Int) := by omega
      obtain ⟨wo, rfl⟩ : ∃ wo, wo = wr := ⟨_, rfl⟩
      obtain ⟨a, ha⟩ : ∃ a, a = x.getD i 0 := ⟨_, rfl⟩
      have hax := HX.out i hlt
      rw [← ha] at hax
      have HA := Hid.mk' ha
      clear ha
      go_wp2_with fail
      go_loopw [7, 8] (fun s t wr => ∃ (c k : Nat) (l : List Nat), s = .int .i64 c ∧ t = .int .i64 k ∧ c < 1000000 ∧ k ≤ y.length ∧ Hid (l.length = x.length + y.length) ∧ Hid (bv l + 1000000 ^ (i + k) * c = bv (x.take i) * bv y + 1000000 ^ i * (a * bv (y.take k)) ∧ Dig l ∧ ∀ j, i + y.length ≤ j → l.getD j 0 = 0) ∧ Hid (wr.ownsRow w.heap.size 3 1 (.slice (some ⟨w.heap.size, 0, none⟩) (x.length + y.length) (x.length + y.length)) (x.length + y.length) (digCells l)) ∧ Hid (Below w.heap.size w wr)) (fun _ t _ => y.length - (intOf t).toNat)
      case atStart => exact ⟨0, 0, l, rfl, rfl, by omega, by omega, HLN, ⟨by rw [HV.out.1]; simp [bv], HV.out.2.1, HV.out.2.2⟩, HO, HB⟩
      case round =>
        clear HLN HV HO HB l
        obtain ⟨c, k, l, rfl, rfl, hc, hk, HLN, HV, HO, HB⟩ := hrel
        by_cases hkt : k < y.length
        · have hca := (H1.out.later HB.out).cellAt hlt
          obtain ⟨_, _, hh, hca⟩ := hca
          cases hh
          obtain ⟨b2, o2, rfl, hcb⟩ := (H2.out.later HB.out).cellAt hkt
          have hby := HY.out k hkt
          rw [← HA.out] at hca
          obtain ⟨b, hb⟩ : ∃ b, b = y.getD k 0 := ⟨_, rfl⟩
          rw [← hb] at hcb hby
          have HBB := Hid.mk' hb
          have hln := HLN.out
          have hco := (HO.out.cellAt (i + k) (by omega)).trans (digCells_get (by omega))
          have hfo := HO.out.frozenAt (i + k)
          have hdo := HV.out.2.1 (i + k) (by omega)
          obtain ⟨d, hd⟩ : ∃ d, d = l.getD (i + k) 0 := ⟨_, rfl⟩
          rw [← hd] at hco hdo
          have HDD := Hid.mk' hd
          clear hb hd hln
          have hkI : (k : Int) < (y.length : Int) := by omega
          have hk0 : (0 : Int) ≤ (k : Int) := by omega
          have hab := mul_small hax hby
          have habI : (0 : Int) ≤ (a : Int) * (b : Int) ∧ (a : Int) * (b : Int) ≤ 999998000001 := by
            have h0 : (a : Int) * (b : Int) = ((a * b : Nat) : Int) := by simp
            omega
          clear hab
          have hikI : (i : Int) + (k : Int) < ((x.length + y.length : Nat) : Int) := by omega
          have hik0 : (0 : Int) ≤ (i : Int) + (k : Int) := by omega
          go_wp2_with fail
          go_quiet (fail)
          go_wp2_with fail
          obtain ⟨ho2, _⟩ := World.ownsRow.stored (w := wr.drewN nq) HO.out (i + k) (.int .i64 (((c + d + a * b) % 1000000 : Nat) : Int))
          rw [digCells_set] at ho2
          have e1 : (c : Int) + (d : Int) + (a : Int) * (b : Int) = ((c + d + a * b : Nat) : Int) := by simp
          have hab' := mul_small hax hby
          have hln := HLN.out
          have hst := mul_step (l := l) (y := y) (P := bv (x.take i) * bv y) (i := i) (k := k) (c := c) (a := a) (t := c + d + a * b) (by omega) (by rw [HDD.out, HBB.out]) HV.out.1
          rw [e1]
          have e2 : (((c + d + a * b : Nat) : Int) / 1000000) = (((c + d + a * b) / 1000000 : Nat) : Int) := by omega
          have e3 : (((c + d + a * b : Nat) : Int) % 1000000) = (((c + d + a * b) % 1000000 : Nat) : Int) := by omega
          rw [e2, e3]
          refine ⟨⟨(c + d + a * b) / 1000000, k + 1, l.set (i + k) ((c + d + a * b) % 1000000), rfl, by go_num, by omega, by omega, by show _ = _; rw [List.length_set]; exact hln, ⟨hst, HV.out.2.1.set _ (Nat.mod_lt _ (by decide)), fun j hj => ?_⟩, ho2, (below_drewN HB.out nq).setCell (Nat.le_refl _) _⟩, by simp [intOf]; omega⟩
          rw [getD_set_other (by omega)]
          exact HV.out.2.2 j hj
        · obtain rfl : k = y.length := by omega
          have hln := HLN.out
          have hco := (HO.out.cellAt (i + y.length) (by omega)).trans (digCells_get (by omega))
          have hfo := HO.out.frozenAt (i + y.length)
          have hdo := HV.out.2.2 (i + y.length) (Nat.le_refl _)
          rw [hdo] at hco
          have hikI : (i : Int) + (y.length : Int) < ((x.length + y.length : Nat) : Int) := by omega
          have hik0 : (0 : Int) ≤ (i : Int) + (y.length : Int) := by omega
          clear hln
          go_wp2_with fail
          obtain ⟨ho2, _⟩ := World.ownsRow.stored HO.out (i + y.length) (.int .i64 (c : Int))
          rw [digCells_set] at ho2
          have hln := HLN.out
          have hrow := mul_row (l := l) (x := x) (y := y) (i := i) (c := c) (by omega) hdo (by rw [← HA.out]; exact HV.out.1)
          refine ⟨⟨i + 1, l.set (i + y.length) c, by go_num, by omega, by show _ = _; rw [List.length_set]; exact hln, ⟨hrow, HV.out.2.1.set _ hc, fun j hj => ?_⟩, ho2, HB.out.setCell (Nat.le_refl _) _⟩, by simp [intOf]; omega⟩
          rw [getD_set_other (by omega)]
          exact HV.out.2.2 j (by omega)
    · obtain rfl : i = x.length := by omega
      have hrow := HO.out
      rw [show x.length + y.length = l.length from HLN.out.symm] at hrow
      obtain ⟨hI, hcap⟩ := intsAt_of_row hrow
      have ht := trimmed_at _ l wr HV.out.2.1 hI hcap
      rw [HLN.out] at ht
      have hval : Hid (bv l = bv x * bv y) := by
        have := HV.out.1
        rw [List.take_length] at this
        exact this
      clear hI hcap hrow
      go_wp2_with fail
      refine ht.mono ?_
      rintro e w4 ⟨r, rfl, hr, hw4⟩
      go_wp2_with fail
      go_ret
      exact ⟨r, rfl, by rw [← hval.out]; exact hr, HB.out⟩

/-- BigMul of any two that are not of a million digits. -/
theorem BigMul_any (u v : Value) (a b k : Nat) (w : World) (ha : BigAt w u a) (hb : BigAt w v b) (hka : a < 1000000 ^ k) (hkb : b < 1000000 ^ k) (hk : k ≤ 1000000) :
    Calls Tryd.prog 48 #[u, v] w fun e w' => ∃ r, e = .returned r ∧ BigAt w' r (a * b) ∧ Below w.heap.size w w' := by
  obtain ⟨x, hx1, hx2, rfl, hx⟩ := ha
  obtain ⟨y, hy1, hy2, rfl, hy⟩ := hb
  exact BigMul_ints u v x y w hx1 hy1 hx hy (by have := len_le_of_lt hx2 hka; omega) (by have := len_le_of_lt hy2 hkb; omega)
end Go.Proofs.YtiegobkbinojeaaDoor
