/- Right chains: the document's and the program's. -/
import Derived.Test.YtndjnmnanldgeaaDoorCodedV
import Derived.Test.YtndjnmnanldgeaaDoorTabCopy
import Derived.Test.YtndjnmnanldgeaaDoorFold
import Derived.Deep.RegionLaw
import Derived.Test.YtndjnmnanldgeaaDoorReachMath
import Derived.Test.YtndjnmnanldgeaaDoorFromMath
import Derived.Test.YtndjnmnanldgeaaDoorWeights
import Derived.ArgAppend
import Derived.Test.YtndjnmnanldgeaaDoorReach
import Derived.Deep.LoopGhost
import Derived.Test.YtndjnmnanldgeaaDoorValidWalk
import Derived.Test.YtndjnmnanldgeaaDoorClosed
namespace Go.Proofs.YtndjnmnanldgeaaDoor
open Go.RowKit

/-- A row among the first k that is of another length, below 0 or nothing; one that is too great. -/
def shapeB (n : Nat) (ns : Nat → Nat) (zs : Nat → Nat → Int) : Nat → Bool
  | 0 => false
  | k + 1 => shapeB n ns zs k || decide (ns k ≠ n ∨ listErr (zs k) (ns k) = 3)
def boundB (ns : Nat → Nat) (zs : Nat → Nat → Int) : Nat → Bool
  | 0 => false
  | k + 1 => boundB ns zs k || decide (listErr (zs k) (ns k) ≠ 0)
def chainErr (n : Nat) (ns : Nat → Nat) (zs : Nat → Nat → Int) : Nat := if 8 < n then 2 else if n = 0 then 3 else if shapeB n ns zs n = true then 3 else if boundB ns zs n = true then 2 else 0
theorem shapeB_at {n : Nat} {ns : Nat → Nat} {zs : Nat → Nat → Int} {k : Nat} : ∀ {m : Nat}, k < m → (ns k ≠ n ∨ listErr (zs k) (ns k) = 3) → shapeB n ns zs m = true
  | 0, h, _ => by omega
  | m + 1, h, hb => by
    rw [shapeB]
    rcases Nat.lt_or_ge k m with h1 | h1
    · rw [shapeB_at h1 hb]; rfl
    · obtain rfl : k = m := by omega
      rw [decide_eq_true hb]; simp
theorem shapeB_none {n : Nat} {ns : Nat → Nat} {zs : Nat → Nat → Int} : ∀ {m : Nat}, shapeB n ns zs m = false → ∀ k, k < m → ns k = n ∧ listErr (zs k) (ns k) ≠ 3
  | 0, _, k, h => by omega
  | m + 1, h, k, hk => by
    rw [shapeB, Bool.or_eq_false_iff] at h
    rcases Nat.lt_or_ge k m with h1 | h1
    · exact shapeB_none h.1 k h1
    · obtain rfl : k = m := by omega
      have := of_decide_eq_false h.2
      exact ⟨by omega, by omega⟩
theorem boundB_none {ns : Nat → Nat} {zs : Nat → Nat → Int} : ∀ {m : Nat}, boundB ns zs m = false → ∀ k, k < m → listErr (zs k) (ns k) = 0
  | 0, _, k, h => by omega
  | m + 1, h, k, hk => by
    rw [boundB, Bool.or_eq_false_iff] at h
    rcases Nat.lt_or_ge k m with h1 | h1
    · exact boundB_none h.1 k h1
    · obtain rfl : k = m := by omega
      have := of_decide_eq_false h.2
      omega
theorem listErr_cases (z : Nat → Int) (n : Nat) : listErr z n = 0 ∨ listErr z n = 2 ∨ listErr z n = 3 := by
  unfold listErr
  split
  · exact Or.inr (Or.inr rfl)
  · split
    · exact Or.inr (Or.inl rfl)
    · exact Or.inl rfl
theorem chainErr_le (n : Nat) (ns : Nat → Nat) (zs : Nat → Nat → Int) : chainErr n ns zs ≤ 3 := by
  unfold chainErr; split; omega; split; omega; split; omega; split <;> omega
/-- What a right chain is. -/
theorem chainErr_ok {n : Nat} {ns : Nat → Nat} {zs : Nat → Nat → Int} (h : chainErr n ns zs = 0) : 0 < n ∧ n ≤ 8 ∧ (∀ i, i < n → ns i = n) ∧ ∀ i, i < n → OkW (zs i) n := by
  unfold chainErr at h
  by_cases h1 : 8 < n
  · rw [if_pos h1] at h; cases h
  rw [if_neg h1] at h
  by_cases h2 : n = 0
  · rw [if_pos h2] at h; cases h
  rw [if_neg h2] at h
  cases h3 : shapeB n ns zs n with
  | true => rw [h3, if_pos rfl] at h; cases h
  | false =>
    rw [h3, if_neg (by simp)] at h
    cases h4 : boundB ns zs n with
    | true => rw [h4, if_pos rfl] at h; cases h
    | false =>
      refine ⟨by omega, by omega, fun i hi => (shapeB_none h3 i hi).1, fun i hi => ?_⟩
      have := listErr_ok (boundB_none h4 i hi)
      rw [(shapeB_none h3 i hi).1] at this
      exact this

set_option maxRecDepth 100000 in
set_option maxHeartbeats 2000000 in
theorem ChainError_any (v : Value) (n : Nat) (vs : Nat → Value) (ns : Nat → Nat) (zs : Nat → Nat → Int) (w : World) (h : TabAt w v n vs ns zs) (hn : n ≤ 1000000) (hns : ∀ i, i < n → ns i ≤ 1000000) :
    Calls Tryd.prog 6 #[v] w fun e w' => e = .returned (.int .i64 (chainErr n ns zs : Nat)) ∧ w' = w := by
  obtain ⟨ad, cap, rfl⟩ := h.form
  have HT := Hid.mk' h
  clear h
  by_cases h8 : 8 < n
  · have hI : (8 : Int) < (n : Int) := by omega
    have he : chainErr n ns zs = 2 := by unfold chainErr; rw [if_pos h8]
    rw [he]
    go_enter Tryd.func6, Tryd.ntmps6
    go_wp2_with fail
    go_ret
    exact ⟨rfl, rfl⟩
  have hI : ¬ (8 : Int) < (n : Int) := by omega
  rcases Nat.eq_zero_or_pos n with h0 | h0
  · subst h0
    go_enter Tryd.func6, Tryd.ntmps6
    go_wp2_with fail
    go_ret
    exact ⟨rfl, rfl⟩
  have hz : ((n : Int) == 0) = false := by rw [beq_eq_false_iff_ne]; omega
  obtain ⟨b, o, rfl, hrows⟩ : ∃ b o, ad = some ⟨b, o, none⟩ ∧ ∀ i, i < n → w.cell? ⟨b, o + i, none⟩ = some (vs i) ∧ NumsAt w (vs i) (ns i) (zs i) := by
    rcases HT.out with ⟨_, _, _, h1⟩ | ⟨b, o, c, h1, _, h2⟩
    · omega
    · simp only [Value.slice.injEq, true_and] at h1
      exact ⟨b, o, h1.1, h2⟩
  have HR := Hid.mk' hrows
  have HNS := Hid.mk' hns
  have HE : Hid (chainErr n ns zs = if shapeB n ns zs n = true then 3 else if boundB ns zs n = true then 2 else 0) := by show _ = _; unfold chainErr; rw [if_neg h8, if_neg (by omega)]
  clear hrows hns
  go_enter Tryd.func6, Tryd.ntmps6
  go_wp2_with fail
  go_loop [3, 4] (fun s t => ∃ k : Nat, k ≤ n ∧ t = .int .i64 k ∧ s = .bool (boundB ns zs k) ∧ Hid (shapeB n ns zs k = false)) (fun _ t => n - (intOf t).toNat)
  case atStart => exact ⟨0, Nat.zero_le _, rfl, rfl, rfl⟩
  case round =>
    obtain ⟨k, hk, rfl, rfl, HS⟩ := hrel
    rcases Nat.lt_or_ge k n with h1 | h1
    · have hkI : (k : Int) < (n : Int) := by omega
      have hk0 : (0 : Int) ≤ (k : Int) := by omega
      obtain ⟨hc, hnum⟩ := HR.out k h1
      obtain ⟨rad, rcap, hre⟩ := hnum.form
      rw [hre] at hc hnum
      have hle := listError_any _ (ns k) (zs k) w hnum (HNS.out k h1)
      have hnk := HNS.out k h1
      by_cases hsh : ns k = n
      · have HSH := Hid.mk' hsh
        rcases listErr_cases (zs k) (ns k) with h5 | h5 | h5
        · rw [h5, hsh] at hle
          rw [hsh] at hc
          have HS' : Hid (shapeB n ns zs (k + 1) = false) := by show _ = _; rw [shapeB, HS.out, decide_eq_false (by rw [h5]; have := HSH.out; omega)]; rfl
          have HB' : Hid (boundB ns zs (k + 1) = boundB ns zs k) := by show _ = _; rw [boundB, decide_eq_false (by rw [h5]; simp)]; simp
          cases hbb : boundB ns zs k with
          | true =>
            rw [hbb] at HB'
            clear h5 hsh
            go_wp2_with fail
            refine hle.mono ?_
            clear hle
            rintro e w2 ⟨rfl, hw2⟩
            go_wp2_with fail
            exact ⟨⟨k + 1, h1, by go_num, by rw [HB'.out], HS'⟩, by simp [intOf]; omega⟩
          | false =>
            rw [hbb] at HB'
            clear h5 hsh
            go_wp2_with fail
            refine hle.mono ?_
            clear hle
            rintro e w2 ⟨rfl, hw2⟩
            go_wp2_with fail
            exact ⟨⟨k + 1, h1, by go_num, by rw [HB'.out], HS'⟩, by simp [intOf]; omega⟩
        · rw [h5, hsh] at hle
          rw [hsh] at hc
          have HS' : Hid (shapeB n ns zs (k + 1) = false) := by show _ = _; rw [shapeB, HS.out, decide_eq_false (by rw [h5]; have := HSH.out; omega)]; rfl
          have HB' : Hid (boundB ns zs (k + 1) = true) := by show _ = _; rw [boundB, decide_eq_true (by rw [h5]; simp)]; simp
          cases hbb : boundB ns zs k with
          | true =>
            clear h5 hsh
            go_wp2_with fail
            refine hle.mono ?_
            clear hle
            rintro e w2 ⟨rfl, hw2⟩
            go_wp2_with fail
            exact ⟨⟨k + 1, h1, by go_num, by rw [HB'.out], HS'⟩, by simp [intOf]; omega⟩
          | false =>
            clear h5 hsh
            go_wp2_with fail
            refine hle.mono ?_
            clear hle
            rintro e w2 ⟨rfl, hw2⟩
            go_wp2_with fail
            exact ⟨⟨k + 1, h1, by go_num, by rw [HB'.out], HS'⟩, by simp [intOf]; omega⟩
        · rw [h5, hsh] at hle
          rw [hsh] at hc
          have HV : Hid (chainErr n ns zs = 3) := by show _ = _; rw [HE.out, if_pos (shapeB_at h1 (Or.inr h5))]
          clear h5 hsh
          go_wp2_with fail
          refine hle.mono ?_
          clear hle
          rintro e w2 ⟨rfl, hw2⟩
          go_wp2_with fail
          go_ret
          exact ⟨ret_int (by rw [HV.out]; rfl), rfl⟩
      · have hne : ((ns k : Int) != (n : Int)) = true := by rw [bne_iff_ne]; omega
        have HV : Hid (chainErr n ns zs = 3) := by show _ = _; rw [HE.out, if_pos (shapeB_at h1 (Or.inl hsh))]
        clear hsh hle
        go_wp2_with fail
        go_ret
        exact ⟨ret_int (by rw [HV.out]; rfl), rfl⟩
    · obtain rfl : n = k := by omega
      cases hbb : boundB ns zs n with
      | true =>
        have HV : Hid (chainErr n ns zs = 2) := by show _ = _; rw [HE.out, HS.out, if_neg (by simp), if_pos hbb]
        go_wp2_with fail
        go_ret
        exact ⟨ret_int (by rw [HV.out]; rfl), rfl⟩
      | false =>
        have HV : Hid (chainErr n ns zs = 0) := by show _ = _; rw [HE.out, HS.out, if_neg (by simp), if_neg (by rw [hbb]; simp)]
        go_wp2_with fail
        go_ret
        exact ⟨ret_int (by rw [HV.out]; rfl), rfl⟩
end Go.Proofs.YtndjnmnanldgeaaDoor

/- chain.Valid. -/
namespace Go.Proofs.YtndjnmnanldgeaaDoor
open Go.RowKit

theorem weightsErr_few {z : Nat → Int} {n : Nat} (h : n ≤ 16) : weightsErr z n = listErr z n := by unfold weightsErr; rw [if_neg (by omega)]
set_option maxRecDepth 100000 in
set_option maxHeartbeats 4000000 in
theorem chainValid_any (a : Nat → Addr) (v : Value) (n : Nat) (vs : Nat → Value) (ns : Nat → Nat) (zs : Nat → Nat → Int) (w : World) (hE : Errs w a) (h : TabAt w v n vs ns zs) (hn : n ≤ 1000000) :
    Calls Tryd.prog 24 #[v] w fun e w' => e = .returned (errV a (chainErr n ns zs)) ∧ w' = w := by
  obtain ⟨ad, cap, rfl⟩ := h.form
  have HT := Hid.mk' h
  have cB := hE.c1
  have cS := hE.c2
  obtain ⟨i, hi, hcmp⟩ := Option.map_eq_some_iff.1 Tryd.isComp
  obtain ⟨j, hj, hjs⟩ := Option.map_eq_some_iff.1 Tryd.isSize
  have heq := run_eql_iface_ptr_same (P := Tryd.prog) w (a 2) Tryd.underlying28 Tryd.underlying127 hi hcmp hj
  obtain ⟨ca, ta, hca⟩ := hE.row 1 (by decide)
  obtain ⟨cb, tb, hcb⟩ := hE.row 2 (by decide)
  have hne2 := run_eql_iface_ptr_other (P := Tryd.prog) w Tryd.underlying28 Tryd.underlying127 hi hcmp hj (by rw [hjs]; decide) (hE.ne 1 2 (by decide) (by decide) (by decide)) hca hcb
  have HEE := Hid.mk' hE
  clear h hca hcb hi hcmp hj hjs hE
  by_cases h8 : 8 < n
  · have hI : (8 : Int) < (n : Int) := by omega
    have he : chainErr n ns zs = 2 := by unfold chainErr; rw [if_pos h8]
    rw [he, errV_two]
    go_enter Tryd.func24, Tryd.ntmps24
    go_wp2_with fail
    go_ret
    exact ⟨rfl, rfl⟩
  have hI : ¬ (8 : Int) < (n : Int) := by omega
  rcases Nat.eq_zero_or_pos n with h0 | h0
  · subst h0
    have he : chainErr 0 ns zs = 3 := by unfold chainErr; simp
    rw [he, errV_three]
    go_enter Tryd.func24, Tryd.ntmps24
    go_wp2_with fail
    go_ret
    exact ⟨rfl, rfl⟩
  have hz : ((n : Int) == 0) = false := by rw [beq_eq_false_iff_ne]; omega
  obtain ⟨b, o, rfl, hrows⟩ : ∃ b o, ad = some ⟨b, o, none⟩ ∧ ∀ i, i < n → w.cell? ⟨b, o + i, none⟩ = some (vs i) ∧ NumsAt w (vs i) (ns i) (zs i) := by
    rcases HT.out with ⟨_, _, _, h1⟩ | ⟨b, o, c, h1, _, h2⟩
    · omega
    · simp only [Value.slice.injEq, true_and] at h1
      exact ⟨b, o, h1.1, h2⟩
  have HR := Hid.mk' hrows
  have HE : Hid (chainErr n ns zs = if shapeB n ns zs n = true then 3 else if boundB ns zs n = true then 2 else 0) := by show _ = _; unfold chainErr; rw [if_neg h8, if_neg (by omega)]
  clear hrows
  go_enter Tryd.func24, Tryd.ntmps24
  go_wp2_with fail
  go_loop [3, 17] (fun s t => ∃ k : Nat, k ≤ n ∧ t = .int .i64 k ∧ s = errV a (if boundB ns zs k = true then 2 else 0) ∧ Hid (shapeB n ns zs k = false)) (fun _ t => n - (intOf t).toNat)
  case atStart => exact ⟨0, Nat.zero_le _, rfl, rfl, rfl⟩
  case round =>
    obtain ⟨k, hk, rfl, hsl, HS⟩ := hrel
    have HSL := Hid.mk' hsl
    clear hsl
    rcases Nat.lt_or_ge k n with h1 | h1
    · have hkI : (k : Int) < (n : Int) := by omega
      have hk0 : (0 : Int) ≤ (k : Int) := by omega
      obtain ⟨hc, hnum⟩ := HR.out k h1
      obtain ⟨rad, rcap, hre⟩ := hnum.form
      rw [hre] at hc hnum
      by_cases hsh : ns k = n
      · have HSH := Hid.mk' hsh
        have hle := Valid_weights a _ (ns k) (zs k) w HEE.out hnum (by omega)
        rw [weightsErr_few (by omega)] at hle
        rcases listErr_cases (zs k) (ns k) with h5 | h5 | h5
        · rw [h5, hsh, errV_zero] at hle
          rw [hsh] at hc
          have HS' : Hid (shapeB n ns zs (k + 1) = false) := by show _ = _; rw [shapeB, HS.out, decide_eq_false (by rw [h5]; have := HSH.out; omega)]; rfl
          have HB' : Hid (boundB ns zs (k + 1) = boundB ns zs k) := by show _ = _; rw [boundB, decide_eq_false (by rw [h5]; simp)]; simp
          clear h5 hsh hre hnum
          go_wp2_with fail
          refine hle.mono ?_
          clear hle
          rintro e w2 ⟨rfl, hw2⟩
          go_wp2_with fail
          exact ⟨⟨k + 1, h1, by go_num, by rw [HB'.out]; exact HSL.out, HS'⟩, by simp [intOf]; omega⟩
        · rw [h5, hsh, errV_two] at hle
          rw [hsh] at hc
          have HS' : Hid (shapeB n ns zs (k + 1) = false) := by show _ = _; rw [shapeB, HS.out, decide_eq_false (by rw [h5]; have := HSH.out; omega)]; rfl
          have HB' : Hid (boundB ns zs (k + 1) = true) := by show _ = _; rw [boundB, decide_eq_true (by rw [h5]; simp)]; simp
          clear h5 hsh hre hnum
          go_wp2_with fail
          refine hle.mono ?_
          clear hle
          rintro e w2 ⟨rfl, hw2⟩
          go_wp2_with fail
          exact ⟨⟨k + 1, h1, by go_num, by rw [HB'.out, if_pos rfl, errV_two], HS'⟩, by simp [intOf]; omega⟩
        · rw [h5, hsh, errV_three] at hle
          rw [hsh] at hc
          have HV : Hid (chainErr n ns zs = 3) := by show _ = _; rw [HE.out, if_pos (shapeB_at h1 (Or.inr h5))]
          clear h5 hsh hre hnum
          go_wp2_with fail
          refine hle.mono ?_
          clear hle
          rintro e w2 ⟨rfl, hw2⟩
          go_wp2_with fail
          go_ret
          exact ⟨by rw [HV.out, errV_three]; rfl, rfl⟩
      · have hne : ((ns k : Int) != (n : Int)) = true := by rw [bne_iff_ne]; omega
        have HV : Hid (chainErr n ns zs = 3) := by show _ = _; rw [HE.out, if_pos (shapeB_at h1 (Or.inl hsh))]
        clear hsh hre hnum
        go_wp2_with fail
        go_ret
        exact ⟨by rw [HV.out, errV_three]; rfl, rfl⟩
    · obtain rfl : n = k := by omega
      have HV : Hid (chainErr n ns zs = if boundB ns zs n = true then 2 else 0) := by show _ = _; rw [HE.out, HS.out, if_neg (by simp)]
      go_wp2_with fail
      go_ret
      exact ⟨by rw [HV.out, ← HSL.out]; rfl, rfl⟩
end Go.Proofs.YtndjnmnanldgeaaDoor

/- chain.told: numbers over one denominator, as fractions. -/
namespace Go.Proofs.YtndjnmnanldgeaaDoor
open Go.RowKit

theorem Tryd.infoFrac : (Tryd.prog.info? 39).map (fun i => (i.zero, i.size, i.bytes)) = some (some (.agg #[.int .i64 0, .int .i64 0]), 2, 16) := by kernel_rfl
/-- A fraction that can be told. -/
def TellsOk (N D : Nat) : Prop := N / Nat.gcd N D ≤ 4611686018427387904 ∧ D / Nat.gcd N D ≤ 4611686018427387904
/-- Fractions of the numbers V over D, as cells. -/
def fracCell (V : Nat → Nat) (D j : Nat) : Value := if j % 2 = 0 then .int .i64 ((V (j / 2) / Nat.gcd (V (j / 2)) D : Nat) : Int) else .int .i64 ((D / Nat.gcd (V (j / 2)) D : Nat) : Int)
theorem made_frac (n j : Nat) (hj : j < 2 * n) : (madeCells (Value.agg #[.int .i64 0, .int .i64 0]).cells (n * 2)).toList[j]? = some (.int .i64 0) := by
  have : j < n * 2 := by omega
  simp [madeCells, this, Value.cells]
  rcases (show j % 2 = 0 ∨ j % 2 = 1 by omega) with h | h <;> simp [h]
theorem rowIs_made2 {w w2 : World} {g n m : Nat} {t : TypeId} {z : Value} {xs : List Value} (h : w2.ownsRow w.heap.size t 2 (.slice (some ⟨g, 0, none⟩) n n) n xs) (hm : m = 2 * n) (hx : ∀ i, i < m → xs[i]? = some z) : RowIs w2 g m (fun _ => z) := by
  obtain ⟨hl, hr⟩ := h
  rcases hr with ⟨hx, _⟩ | ⟨g', cap', cur, hv, hb, hh, _, _, hs, ht⟩
  · cases hx
  · obtain ⟨rfl, rfl⟩ : g = g' ∧ n = cap' := by simpa using hv
    refine ⟨fun i hi => ?_, fun i hi => ?_⟩
    · rw [← hx i hi, ← ht, List.getElem?_take_of_lt (by omega)]
      simp [World.cell?, hh]
    · simp [World.frozen?, hh]
theorem RowIs.set {W : World} {g m j : Nat} {f f' : Nat → Value} (h : RowIs W g m f) (hj : j < m) (y : Value) (hf : ∀ i, i < m → f' i = if i = j then y else f i) : RowIs (W.setCell ⟨g, j, none⟩ y) g m f' :=
  ⟨fun i hi => by
    rw [cell_put _ (h.row j hj), hf i hi]
    by_cases hij : i = j
    · subst hij; rw [if_pos rfl, if_pos rfl]
    · rw [if_neg (fun e => hij (congrArg Addr.off e)), if_neg hij]; exact h.row i hi, fun i hi => by rw [World.frozen?_setCell]; exact h.fz i hi⟩

set_option maxRecDepth 100000 in
set_option maxHeartbeats 4000000 in
theorem told_all (a : Nat → Addr) (v dv : Value) (n D k : Nat) (V : Nat → Nat) (w : World) (hE : Errs w a) (h : NatsAt w v n V) (hd : NatAt w dv D) (hD : 0 < D) (hk : k ≤ 100000) (hkD : D < 18446744073709551616 ^ k) (hkV : ∀ i, i < n → V i < 18446744073709551616 ^ k) (hn : n ≤ 8) (hok : ∀ i, i < n → TellsOk (V i) D) :
    Calls Tryd.prog 33 #[v, dv] w fun e w' => ∃ g, e = .returned (.tuple #[.slice (some ⟨g, 0, none⟩) n n, .nilIface]) ∧ RowIs w' g (2 * n) (fracCell V D) ∧ Below w.heap.size w w' := by
  obtain ⟨i0, hi, hz0, hz1, hz2⟩ := info_parts Tryd.infoFrac
  have HINF : Hid (Tryd.prog.info? 39 = some i0 ∧ i0.zero = some (.agg #[.int .i64 0, .int .i64 0]) ∧ i0.size = 2 ∧ i0.bytes = 16) := ⟨hi, hz0, hz1, hz2⟩
  clear hi hz0 hz1 hz2
  obtain ⟨vb, vo, vc, fv, rfl, hrows⟩ := h
  have HR : Hid (∀ W, Below w.heap.size w W → ∀ i, i < n → W.cell? ⟨vb, vo + i, none⟩ = some (fv i) ∧ NatAt W (fv i) (V i)) := fun W hb i hi => ⟨by rw [hb.cell (cell_lt (hrows i hi).1)]; exact (hrows i hi).1, (hrows i hi).2.later hb⟩
  have HD := Hid.mk' hd
  have HEE := Hid.mk' hE
  have HK := Hid.mk' (And.intro hkD hkV)
  have HOK := Hid.mk' hok
  clear hrows hd hE hkD hkV hok
  go_enter Tryd.func33, Tryd.ntmps33
  go_wp2_with (at_make; go_must (refine wpList_make_full _ rfl _ _ _ rfl w.heap.size 39 i0 _ 2 Tryd.underlying34 HINF.out.1 HINF.out.2.1 HINF.out.2.2.1 .i64 .i64 _ _ n rfl rfl rfl rfl (by rw [HINF.out.2.2.2]; omega) (by unfold maxLen; omega) (Nat.le_refl _) ?_; intro w2 hown2 hgrow2; have HF2 := Hid.mk' (rowIs_made2 hown2 rfl (made_frac n)); have HB2 := Hid.mk' (made_below hgrow2); clear hown2 hgrow2))
  go_loopw [16] (fun t wr => ∃ (i : Nat) (f : Nat → Value), i ≤ n ∧ t = .int .i64 i ∧ Hid (RowIs wr w.heap.size (2 * n) f ∧ ∀ j, j < 2 * i → f j = fracCell V D j) ∧ Hid (Below w.heap.size w wr)) (fun t _ => n - (intOf t).toNat)
  case atStart => exact ⟨0, _, Nat.zero_le _, rfl, ⟨HF2.out, fun j hj => by omega⟩, HB2⟩
  case round =>
    clear HF2 HB2
    obtain ⟨i, f, hi, rfl, HF, HB⟩ := hrel
    rcases Nat.lt_or_ge i n with h1 | h1
    · have hiI : (i : Int) < (n : Int) := by omega
      have hi0 : (0 : Int) ≤ (i : Int) := by omega
      obtain ⟨hc, hnat⟩ := HR.out wr HB.out i h1
      have htl := Told_any a (fv i) dv (V i) D k wr (HEE.out.below HB.out) hnat (HD.out.later HB.out) hD (HK.out.2 i h1) HK.out.1 hk
      have htv : toldV a (V i) D = .tuple #[.agg #[.int .i64 ((V i / Nat.gcd (V i) D : Nat) : Int), .int .i64 ((D / Nat.gcd (V i) D : Nat) : Int)], .nilIface] := by unfold toldV; exact if_pos (HOK.out i h1)
      rw [htv] at htl
      have HP : Hid (fracCell V D (i * 2) = .int .i64 ((V i / Nat.gcd (V i) D : Nat) : Int) ∧ fracCell V D (i * 2 + 1) = .int .i64 ((D / Nat.gcd (V i) D : Nat) : Int)) := by
        refine ⟨?_, ?_⟩
        · unfold fracCell; rw [if_pos (by omega), show i * 2 / 2 = i by omega]
        · unfold fracCell; rw [if_neg (by omega), show (i * 2 + 1) / 2 = i by omega]
      generalize V i / Nat.gcd (V i) D = p at *
      generalize D / Nat.gcd (V i) D = q at *
      generalize fv i = x at *
      clear htv
      go_wp2_with fail
      refine htl.mono ?_
      clear htl
      rintro e w4 ⟨rfl, hb4⟩
      have hba : Below w4.heap.size w4 (w4.alloc (.cells #[.int .i64 (p : Int), .int .i64 (q : Int)] 39)) := (Below.refl _ _).alloc (Nat.le_refl _) _
      have hF5 := (HF.out.1.later hb4).later hba
      have y0 := hF5.row (i * 2) (by omega)
      have y1 := hF5.row (i * 2 + 1) (by omega)
      have z0 := hF5.fz (i * 2) (by omega)
      have z1 := hF5.fz (i * 2 + 1) (by omega)
      have HS : Hid (RowIs (((w4.alloc (.cells #[.int .i64 (p : Int), .int .i64 (q : Int)] 39)).setCell ⟨w.heap.size, i * 2, none⟩ (.int .i64 (p : Int))).setCell ⟨w.heap.size, i * 2 + 1, none⟩ (.int .i64 (q : Int))) w.heap.size (2 * n) (fun j => if j = i * 2 + 1 then .int .i64 (q : Int) else if j = i * 2 then .int .i64 (p : Int) else f j)) := (hF5.set (j := i * 2) (f' := fun j => if j = i * 2 then .int .i64 (p : Int) else f j) (by omega) _ (fun _ _ => rfl)).set (by omega) _ (fun _ _ => rfl)
      have HB5 := Hid.mk' (below_chain (below_chain HB.out hb4) hba)
      clear hF5 hba hb4
      go_wp2_with fail
      refine ⟨⟨i + 1, _, h1, by go_num, ⟨HS.out, fun j hj => ?_⟩, ?_⟩, by simp [intOf]; omega⟩
      · by_cases h2 : j = i * 2 + 1
        · rw [if_pos h2, h2]; exact HP.out.2.symm
        · rw [if_neg h2]
          by_cases h3 : j = i * 2
          · rw [if_pos h3, h3]; exact HP.out.1.symm
          · rw [if_neg h3]; exact HF.out.2 j (by omega)
      · exact (HB5.out.setCell (Nat.le_refl _) _).setCell (Nat.le_refl _) _
    · obtain rfl : n = i := by omega
      go_wp2_with fail
      go_ret2
      exact ⟨_, rfl, ⟨fun j hj => by rw [← HF.out.2 j hj]; exact HF.out.1.row j hj, HF.out.1.fz⟩, HB.out⟩
end Go.Proofs.YtndjnmnanldgeaaDoor

/- chain.Stationary, where one class is closed. -/
namespace Go.Proofs.YtndjnmnanldgeaaDoor
open Go.RowKit

theorem classL_lt (tt : Nat → Nat → Bool) (i : Nat) : ∀ n x, x ∈ classL tt i n → x < n
  | 0, x, h => by simp [classL] at h
  | n + 1, x, h => by
    rw [classL] at h
    split at h
    · simp only [List.mem_append, List.mem_singleton] at h
      rcases h with h | h
      · have := classL_lt tt i n x h; omega
      · omega
    · have := classL_lt tt i n x h; omega
/-- How often one is in each state of a list, times its row's sum. -/
def often (zs : Nat → Nat → Int) (n : Nat) (L : List Nat) (i : Nat) : Nat := vis L.length (downTo L.length (fold0 L zs n L.length) (L.length - 1) 1) L.length i * (sumN (zs (L.getD i 0)) n).toNat
/-- Put at their states' places. -/
def placed (zs : Nat → Nat → Int) (n : Nat) (L : List Nat) : Nat → Nat → Nat
  | 0, _ => 0
  | i + 1, s => if s = L.getD i 0 then often zs n L i else placed zs n L i s

set_option maxRecDepth 100000 in
set_option maxHeartbeats 8000000 in
theorem Stationary_one (a : Nat → Addr) (v : Value) (n e0 k : Nat) (vs : Nat → Value) (ns : Nat → Nat) (zs : Nat → Nat → Int) (w : World) (hE : Errs w a) (h : TabAt w v n vs ns zs) (hok : chainErr n ns zs = 0) (L : List Nat) (hcl : closedL (war (edge zs) n) n n = [e0]) (he0 : e0 < n) (hL : classL (war (edge zs) n) e0 n = L) (hL0 : 0 < L.length)
    (hD : 0 < sumTo (often zs n L) L.length) (hk : k ≤ 100000) (hkV : ∀ i, i ≤ L.length → sumTo (often zs n L) i < 18446744073709551616 ^ k) (hkO : ∀ i, i < L.length → vis L.length (downTo L.length (fold0 L zs n L.length) (L.length - 1) 1) L.length i < 18446744073709551616 ^ k ∧ often zs n L i < 18446744073709551616 ^ k) (hkP : ∀ s, s < n → placed zs n L L.length s < 18446744073709551616 ^ k) (htl : ∀ s, s < n → TellsOk (placed zs n L L.length s) (sumTo (often zs n L) L.length)) :
    Calls Tryd.prog 11 #[v] w fun e w' => ∃ g, e = .returned (.tuple #[.slice (some ⟨g, 0, none⟩) n n, .nilIface]) ∧ RowIs w' g (2 * n) (fracCell (placed zs n L L.length) (sumTo (often zs n L) L.length)) ∧ Below w.heap.size w w' := by
  obtain ⟨hn0, hn8, hev, hrows⟩ := chainErr_ok hok
  have hval := chainValid_any a v n vs ns zs w hE h (by omega)
  rw [hok, errV_zero] at hval
  have hRA := rowsAt_of_tab h hn0 hev
  have hreach := reach_any v n zs w hRA hn8
  obtain ⟨i0, hi, hz0, hz1, hz2⟩ := info_parts Tryd.infoNat
  have HINF : Hid (Tryd.prog.info? 59 = some i0 ∧ i0.zero = some (.slice none 0 0) ∧ i0.size = 1 ∧ i0.bytes = 24) := ⟨hi, hz0, hz1, hz2⟩
  clear hi hz0 hz1 hz2
  obtain ⟨cb, co, cc, hcv, hcr⟩ := hRA
  subst hcv
  have HRA : Hid (RowsAt w (.slice (some ⟨cb, co, none⟩) n cc) n zs) := ⟨cb, co, cc, rfl, hcr⟩
  have HEE := Hid.mk' hE
  have HOK := Hid.mk' hrows
  have HCL := Hid.mk' hcl
  have HLL := Hid.mk' hL
  have hLn : L.length ≤ n := by rw [← hL]; exact classL_le _ _ n
  have HLT : Hid (∀ x, x ∈ L → x < n) := by rw [← hL]; exact classL_lt _ _ n
  have HH := Hid.mk' (And.intro hkV (And.intro hkO (And.intro hkP htl)))
  clear hE h hok hrows hcl hL hkV hkO hkP htl hcr hev
  go_enter Tryd.func11, Tryd.ntmps11
  go_wp2_with fail
  refine hval.mono ?_
  clear hval
  rintro e w1 ⟨rfl, hw1⟩
  rw [hw1]
  clear hw1
  go_wp2_with fail
  refine hreach.mono ?_
  clear hreach
  rintro e w2 ⟨tv, rfl, htr, hb2⟩
  have hclo := closed_any tv n (war (edge zs) n) w2 htr hn8
  rw [HCL.out] at hclo
  have HTR := Hid.mk' htr
  have HB2 := Hid.mk' hb2
  clear htr hb2
  go_wp2_with fail
  refine hclo.mono ?_
  clear hclo
  rintro e w3 ⟨ev, rfl, hev, hb3⟩
  obtain ⟨eb, eo, ec, rfl, hec⟩ : ∃ eb eo ec, ev = .slice (some ⟨eb, eo, none⟩) 1 ec ∧ w3.cell? ⟨eb, eo, none⟩ = some (.int .i64 (e0 : Int)) := by
    rcases hev with ⟨_, _, _, h0⟩ | ⟨b, o, c, h1, _, h2⟩
    · simp at h0
    · exact ⟨b, o, c, h1, by have := h2 0 (by simp); simpa using this⟩
  have hcla := class_any tv n e0 (war (edge zs) n) w3 (HTR.out.later hb3) hn8 he0
  rw [HLL.out] at hcla
  have HB3 := Hid.mk' (below_chain HB2.out hb3)
  clear hb3 hev
  go_wp2_with fail
  refine hcla.mono ?_
  clear hcla hec
  rintro e w4 ⟨sv, rfl, hsv, hb4⟩
  have HSV := Hid.mk' hsv
  have HB4 := Hid.mk' (below_chain HB3.out hb4)
  clear hsv hb4 HTR
  go_upto_region 9 with fail
  go_cut [8, 9] from 31 (fun s t wx => ∃ nb : Nat, s = .slice (some ⟨nb, 0, none⟩) n n ∧ t = .slice none 0 0 ∧ w4.heap.size ≤ nb ∧ Hid (RowIs wx nb n (fun _ => .slice none 0 0)) ∧ Hid (Below w4.heap.size w4 wx))
  case first =>
    obtain ⟨w5, hrun, hown, hgrow⟩ := run_make_full (P := Tryd.prog) w4.drew w4.drew.heap.size 57 59 i0 (.slice none 0 0) 1 Tryd.underlying57 HINF.out.1 HINF.out.2.1 HINF.out.2.2.1 .i64 .i64 n (by rw [HINF.out.2.2.2]; omega) (by unfold maxLen; omega) (Nat.le_refl _)
    have HR5 := Hid.mk' (rowIs_made hown (made_one (.slice none 0 0) rfl n))
    have HB5 : Hid (Below w4.heap.size w4 w5) := below_chain ((Below.refl _ _).drew) (made_below hgrow)
    clear hown hgrow
    go_region_with (first | (go_at_call 27; refine (NatOf_zero _).mono ?_; rintro e wz ⟨rfl, hwz⟩; rw [hwz]; clear hwz))
    all_goals (go_wp2_with fail; go_meet)
    all_goals exact ⟨_, rfl, rfl, Nat.le_refl _, HR5, HB5⟩
  case rest =>
  obtain ⟨nb, rfl, rfl, hnb, HR5, HB5⟩ := hcut
  have hfold := fold_any (.slice (some ⟨cb, co, none⟩) n cc) sv n L.length zs L wc (HRA.out.later (below_chain HB4.out HB5.out)) (HSV.out.later HB5.out) rfl hL0 (by omega) HLT.out hn8 HOK.out
  go_wp2_with fail
  refine hfold.mono ?_
  clear hfold
  rintro e w6 ⟨g, rb, cp, f, rfl, hfo⟩
  have hvis := visits_any wc w6 L.length g rb cp f _ hfo hL0 (by omega) (fun i k hi hk => Nat.lt_trans (downTo_lt (by omega) (fun i k _ hk => fold0_lt (fun j hj => HLT.out _ (by rw [List.getD_eq_getElem?_getD, List.getElem?_eq_getElem hj]; simp)) HOK.out i k hk) (L.length - 1) 1 (by omega) i k hi hk) (bnd_room (by omega)))
  have hbf := hfo.below
  have HB6 := Hid.mk' (below_chain HB5.out hbf)
  have HR6 := Hid.mk' (HR5.out.later hbf)
  clear hfo hbf
  go_wp2_with fail
  refine hvis.mono ?_
  clear hvis
  rintro e w7 ⟨ov, rfl, hov, hb7, hfr7⟩
  obtain ⟨ob, oo, oc, of_, rfl, hoc⟩ := hov
  have HOV : Hid (∀ W, Below w7.heap.size w7 W → ∀ i, i < L.length → W.cell? ⟨ob, oo + i, none⟩ = some (of_ i) ∧ NatAt W (of_ i) (vis L.length (downTo L.length (fold0 L zs n L.length) (L.length - 1) 1) L.length i)) := fun W hb i hi => ⟨by rw [hb.cell (cell_lt (hoc i hi).1)]; exact (hoc i hi).1, (hoc i hi).2.later hb⟩
  have HB7 := Hid.mk' (below_chain HB6.out hb7)
  have HR7 := Hid.mk' (HR6.out.later hb7)
  have hnb7 : nb < w6.heap.size := cell_lt (HR6.out.row 0 hn0)
  have hob : nb ≠ ob := by have := hfr7 ob oo _ oc rfl; omega
  have HO7 : Hid (∀ i, i < L.length → w7.cell? ⟨ob, oo + i, none⟩ = some (of_ i) ∧ NatAt w7 (of_ i) (vis L.length (downTo L.length (fold0 L zs n L.length) (L.length - 1) 1) L.length i)) := hoc
  clear hb7 hoc HR5 HR6 HB5 HB6 HOV hfr7
  obtain ⟨m, hm⟩ : ∃ m, m = L.length := ⟨_, rfl⟩
  rw [← hm]
  have hmn : m ≤ n := by omega
  have HSC : Hid (∀ W, Below w4.heap.size w4 W → ∀ i, i < m → ∃ sb so sc, sv = .slice (some ⟨sb, so, none⟩) m sc ∧ sb < w4.heap.size ∧ W.cell? ⟨sb, so + i, none⟩ = some (.int .i64 ((L.getD i 0 : Nat) : Int))) := fun W hb i hi => by
    rcases HSV.out with ⟨_, _, _, h0⟩ | ⟨b, o, c, h1, _, h2⟩
    · omega
    · have := h2 i (by omega)
      exact ⟨b, o, c, by rw [h1, hm], cell_lt this, by rw [hb.cell (cell_lt this)]; exact this⟩
  obtain ⟨sb, so, sc, hsv, hsb, _⟩ := HSC.out w4 (Below.refl _ _) 0 (by omega)
  subst hsv
  have HS2 : Hid (∀ W, Below w4.heap.size w4 W → ∀ i, i < m → W.cell? ⟨sb, so + i, none⟩ = some (.int .i64 ((L.getD i 0 : Nat) : Int))) := fun W hb i hi => by
    obtain ⟨b, o, c, h1, _, h2⟩ := HSC.out W hb i hi
    simp only [Value.slice.injEq, Option.some.injEq, Addr.mk.injEq, and_true, true_and] at h1
    obtain ⟨⟨rfl, rfl⟩, _⟩ := h1
    exact h2
  have HRW : Hid (∀ W, Below w4.heap.size w4 W → ∀ i, i < n → ∃ b1 o1 cap1, W.cell? ⟨cb, co + i, none⟩ = some (.slice (some ⟨b1, o1, none⟩) n cap1) ∧ RowAt W b1 o1 n (zs i)) := fun W hb i hi => (HRA.out.later (below_chain HB4.out hb)).rowAt i hi
  have HLI : Hid (∀ i, i < m → L.getD i 0 < n) := fun i hi => HLT.out _ (by rw [List.getD_eq_getElem?_getD, List.getElem?_eq_getElem (by omega)]; simp)
  clear HSC HRA
  go_wp2_with fail
  go_loopw [9, 40] (fun u t wr => ∃ (i : Nat) (f : Nat → Value), i ≤ m ∧ t = .int .i64 i ∧ Hid (NatAt wr u (sumTo (often zs n L) i)) ∧ Hid (RowIs wr nb n f ∧ ∀ s, s < n → NatAt wr (f s) (placed zs n L i s)) ∧ Hid (∀ i, i < m → wr.cell? ⟨ob, oo + i, none⟩ = some (of_ i) ∧ NatAt wr (of_ i) (vis L.length (downTo L.length (fold0 L zs n L.length) (L.length - 1) 1) L.length i)) ∧ Hid (Below w4.heap.size w4 wr)) (fun _ t _ => m - (intOf t).toNat)
  case atStart => exact ⟨0, _, Nat.zero_le _, rfl, natAt_none _, ⟨HR7.out, fun s hs => natAt_none _⟩, fun i hi => HO7.out i (by omega), HB7⟩
  case round =>
    clear HR7 HO7 HB7
    obtain ⟨i, f, hi, rfl, HSU, HNU, HO, HB⟩ := hrel
    rcases Nat.lt_or_ge i m with h1 | h1
    · have hiI : (i : Int) < (m : Int) := by omega
      have hi0 : (0 : Int) ≤ (i : Int) := by omega
      have y0 := (HO.out i h1).1
      have HOF := Hid.mk' (HO.out i h1).2
      have y1 := HS2.out wr HB.out i h1
      have hsn := HLI.out i h1
      have HDEF : Hid (often zs n L i = vis L.length (downTo L.length (fold0 L zs n L.length) (L.length - 1) 1) L.length i * (sumN (zs (L.getD i 0)) n).toNat) := rfl
      have HPL : Hid (∀ s, placed zs n L (i + 1) s = if s = L.getD i 0 then often zs n L i else placed zs n L i s) := fun s => rfl
      have HKO := Hid.mk' (HH.out.2.1 i (by omega))
      have HKS := Hid.mk' (HH.out.1 i (by omega))
      have HSM : Hid (sumTo (often zs n L) (i + 1) = sumTo (often zs n L) i + often zs n L i) := rfl
      obtain ⟨st, hst⟩ : ∃ st, st = L.getD i 0 := ⟨_, rfl⟩
      have HST := Hid.mk' hst
      rw [← hst] at y1 hsn HDEF HPL
      clear hst
      have hs0 : (0 : Int) ≤ (st : Int) := by omega
      have hsI : (st : Int) < (n : Int) := by omega
      obtain ⟨b1, o1, cap1, y2, hrow⟩ := HRW.out wr HB.out st hsn
      have hokr := HOK.out st hsn
      have hpos := hokr.pos
      have hle := hokr.le
      obtain ⟨x, hx⟩ : ∃ x : Nat, sumN (zs st) n = (x : Int) := ⟨(sumN (zs st) n).toNat, by omega⟩
      have htot := Total_some b1 o1 cap1 n (zs st) wr hrow (fun k hk => by have := hokr.part hk; omega) (fun k hk => by have := hokr.lt hk; omega) (by omega)
      rw [hx] at htot hpos hle HDEF
      have hxw : IntKind.u64.wrap (x : Int) = (x : Int) := by rw [IntKind.wrap_u64]; omega
      have hx0 : 0 < x := by omega
      have htm := Times_any (of_ i) _ x k wr HOF.out hx0 (by omega) HKO.out.1 (by omega)
      have hof : vis L.length (downTo L.length (fold0 L zs n L.length) (L.length - 1) 1) L.length i * x = often zs n L i := by rw [HDEF.out]; simp
      rw [hof] at htm
      obtain ⟨oa, ol, oz, hoe⟩ := HOF.out.isSlice
      rw [hoe] at y0 htm
      clear hokr hpos hle hrow hx hof HDEF hoe
      go_wp2_with fail
      refine htot.mono ?_
      clear htot
      rintro e w8 ⟨rfl, hw8⟩
      rw [hw8]
      clear hw8
      go_wp2_with fail
      refine htm.mono ?_
      clear htm
      rintro e w9 ⟨nv, rfl, hnv, hb9⟩
      obtain ⟨na, nl, nc, rfl⟩ := hnv.isSlice
      have HNV := Hid.mk' hnv
      have HB9 := Hid.mk' (below_chain HB.out hb9)
      have HSU9 := Hid.mk' (HSU.out.later hb9)
      have HNU9 : Hid (RowIs w9 nb n f ∧ ∀ s, s < n → NatAt w9 (f s) (placed zs n L i s)) := ⟨HNU.out.1.later hb9, fun s hs => (HNU.out.2 s hs).later hb9⟩
      have HO9 : Hid (∀ i, i < m → w9.cell? ⟨ob, oo + i, none⟩ = some (of_ i) ∧ NatAt w9 (of_ i) (vis L.length (downTo L.length (fold0 L zs n L.length) (L.length - 1) 1) L.length i)) := fun j hj => ⟨by rw [hb9.cell (cell_lt (HO.out j hj).1)]; exact (HO.out j hj).1, (HO.out j hj).2.later hb9⟩
      clear hnv hb9 y0 y1 y2
      have q1 := HS2.out w9 HB9.out i h1
      rw [← HST.out] at q1
      go_wp2_with fail
      have HPLU : Hid (∀ W, Below w9.heap.size w9 W → Calls Tryd.prog 32 #[u9, .slice na nl nc] W fun e w' => ∃ r, e = .returned r ∧ NatAt w' r (sumTo (often zs n L) (i + 1)) ∧ Below W.heap.size W w') := fun W hb => by rw [HSM.out]; exact Plus_any u9 _ _ _ k W (HSU9.out.later hb) (HNV.out.later hb) HKS.out HKO.out.2 (by omega)
      have HQ : Hid (∀ W, Below w9.heap.size w9 W → W.cell? ⟨sb, so + i, none⟩ = some (.int .i64 (st : Int))) := fun W hb => by rw [hb.cell (cell_lt q1)]; exact q1
      have HQ2 : Hid (∀ W y, Below w9.heap.size w9 W → (W.setCell ⟨nb, st, none⟩ y).cell? ⟨sb, so + i, none⟩ = some (.int .i64 (st : Int))) := fun W y hb => by
        rw [cell_put _ ((HNU9.out.1.later hb).row st hsn), if_neg (fun e => by have := congrArg Addr.block e; simp at this; omega)]
        exact HQ.out W hb
      have HNF : Hid (∀ W, Below w9.heap.size w9 W → W.cell? ⟨nb, st, none⟩ = some (f st) ∧ W.frozen? ⟨nb, st, none⟩ = false) := fun W hb => ⟨(HNU9.out.1.later hb).row st hsn, (HNU9.out.1.later hb).fz st hsn⟩
      have hcur : Below w9.heap.size w9 w9.drew := (Below.refl _ _).drew
      clear q1
      go_region_held3 (fun W => W.cell? ⟨sb, so + i, none⟩ = some (.int .i64 (st : Int)))
        (first | exact HQ.out _ hcur | exact HQ.out _ hcur1 | exact HQ2.out _ _ hcur1)
        (first | (go_at_call 32; refine (HPLU.out _ hcur).mono ?_; rintro e w10 ⟨rv, rfl, hrv, hb10⟩; have hcur1 := below_chain hcur hb10; obtain ⟨z0, z1⟩ := HNF.out _ hcur1; have HRV := Hid.mk' hrv; clear hrv))
      go_wp2_with fail
      obtain ⟨fa, fl, fc, hfe⟩ := (HNU9.out.2 st hsn).isSlice
      have z2 := z0
      rw [hfe] at z2
      refine ⟨⟨i + 1, fun s => if s = st then .slice na nl nc else f s, h1, by go_num, HRV.out.putS z2, ⟨(HNU9.out.1.later hcur1).set hsn _ (fun _ _ => rfl), fun s hs => ?_⟩, fun j hj => ⟨?_, (((HO9.out j hj).2).later hcur1).putS z2⟩, (below_chain HB9.out hcur1).setCell hnb _⟩, by simp [intOf]; omega⟩
      · show NatAt _ (if s = st then Value.slice na nl nc else f s) _
        rw [HPL.out]
        by_cases hss : s = st
        · rw [if_pos hss, if_pos hss]; exact (HNV.out.later hcur1).putS z2
        · rw [if_neg hss, if_neg hss]; exact ((HNU9.out.2 s hs).later hcur1).putS z2
      · rw [cell_put _ z0, if_neg (fun e => hob (congrArg Addr.block e).symm), hcur1.cell (cell_lt (HO9.out j hj).1)]
        exact (HO9.out j hj).1
    · obtain rfl : m = i := by omega
      have hfin := told_all a (.slice (some ⟨nb, 0, none⟩) n n) u9 n (sumTo (often zs n L) L.length) k (placed zs n L L.length) wr (HEE.out.below (below_chain HB4.out HB.out)) ⟨nb, 0, n, f, rfl, fun s hs => ⟨by rw [Nat.zero_add]; exact HNU.out.1.row s hs, by have := HNU.out.2 s hs; rw [hm] at this; exact this⟩⟩ (by have := HSU.out; rw [hm] at this; exact this) hD hk (HH.out.1 _ (Nat.le_refl _)) HH.out.2.2.1 hn8 HH.out.2.2.2
      go_wp2_with fail
      refine hfin.mono ?_
      clear hfin
      rintro e w11 ⟨g2, rfl, hr11, hb11⟩
      go_wp2_with fail
      go_ret2
      exact ⟨g2, rfl, hr11, below_chain (below_chain HB4.out HB.out) hb11⟩
end Go.Proofs.YtndjnmnanldgeaaDoor

/- The law's closed fact: two states that change places. -/
namespace Go.Proofs.YtndjnmnanldgeaaDoor
open Go.RowKit

set_option maxRecDepth 100000 in
set_option maxHeartbeats 1000000 in
theorem SameFracs_same (b1 o1 c1 b2 o2 c2 n : Nat) (p : Nat → Int) (w : World) (hn : n ≤ 1000) (h1 : ∀ j, j < 2 * n → w.cell? ⟨b1, o1 + j, none⟩ = some (.int .i64 (p j))) (h2 : ∀ j, j < 2 * n → w.cell? ⟨b2, o2 + j, none⟩ = some (.int .i64 (p j))) :
    Calls Tryd.prog 12 #[.slice (some ⟨b1, o1, none⟩) n c1, .slice (some ⟨b2, o2, none⟩) n c2] w fun e w' => e = .returned (.bool true) ∧ ∃ m, w' = w.drewN m := by
  have H1 := Hid.mk' h1
  have H2 := Hid.mk' h2
  clear h1 h2
  go_enter Tryd.func12, Tryd.ntmps12
  go_wp2_with fail
  go_loopw [5] (fun t wr => ∃ i m : Nat, i ≤ n ∧ t = .int .i64 i ∧ wr = w.drewN m) (fun t _ => n - (intOf t).toNat)
  case atStart => exact ⟨0, 0, Nat.zero_le _, rfl, rfl⟩
  case round =>
    obtain ⟨i, m, hi, rfl, rfl⟩ := hrel
    rcases Nat.lt_or_ge i n with h1 | h1
    · have hiI : (i : Int) < (n : Int) := by omega
      have hi0 : (0 : Int) ≤ (i : Int) := by omega
      have y0 := H1.out (i * 2) (by omega)
      have y1 := H1.out (i * 2 + 1) (by omega)
      have z0 := H2.out (i * 2) (by omega)
      have z1 := H2.out (i * 2 + 1) (by omega)
      generalize p (i * 2) = x at *
      generalize p (i * 2 + 1) = y at *
      rw [← Nat.add_assoc] at y1 z1
      go_wp2_with fail
      go_quiet (fail)
      go_wp2_with fail
      exact ⟨⟨i + 1, _, h1, by go_num, rfl⟩, by simp [intOf]; omega⟩
    · obtain rfl : n = i := by omega
      go_wp2_with fail
      go_ret
      exact ⟨rfl, m, rfl⟩

/-- The two rows. -/
def swapZ (i k : Nat) : Int := if i = 0 then (if k = 1 then 1 else 0) else (if k = 0 then 5 else 0)
theorem swap_err : chainErr 2 (fun _ => 2) swapZ = 0 := by decide
theorem swap_closed : closedL (war (edge swapZ) 2) 2 2 = [0] := by decide
theorem swap_class : classL (war (edge swapZ) 2) 0 2 = [0, 1] := by decide
theorem swap_often : often swapZ 2 [0, 1] 0 = 5 ∧ often swapZ 2 [0, 1] 1 = 5 := by decide
theorem swap_vis : vis 2 (downTo 2 (fold0 [0, 1] swapZ 2 2) 1 1) 2 0 = 5 ∧ vis 2 (downTo 2 (fold0 [0, 1] swapZ 2 2) 1 1) 2 1 = 1 := by decide
theorem swap_placed : placed swapZ 2 [0, 1] 2 0 = 5 ∧ placed swapZ 2 [0, 1] 2 1 = 5 := by decide
theorem swap_sum : sumTo (often swapZ 2 [0, 1]) 0 = 0 ∧ sumTo (often swapZ 2 [0, 1]) 1 = 5 ∧ sumTo (often swapZ 2 [0, 1]) 2 = 10 := by decide
theorem swap_cell (j : Nat) (hj : j < 4) : fracCell (placed swapZ 2 [0, 1] 2) 10 j = .int .i64 (if j % 2 = 0 then 1 else 2) := by
  rcases (show j = 0 ∨ j = 1 ∨ j = 2 ∨ j = 3 by omega) with rfl | rfl | rfl | rfl <;> (unfold fracCell; simp [swap_placed.1, swap_placed.2])

/-- The table of the two rows, as it is built. -/
theorem swap_table (w : World) (t1 t2 : TypeId) : TabAt (((w.alloc (.cells #[.int .i64 0, .int .i64 1] t1)).alloc (.cells #[.int .i64 5, .int .i64 0] t1)).alloc (.cells #[.slice (some ⟨w.heap.size, 0, none⟩) 2 2, .slice (some ⟨w.heap.size + 1, 0, none⟩) 2 2] t2)) (.slice (some ⟨w.heap.size + 1 + 1, 0, none⟩) 2 2) 2 (fun i => .slice (some ⟨w.heap.size + i, 0, none⟩) 2 2) (fun _ => 2) swapZ := by
  refine Or.inr ⟨_, _, _, rfl, by decide, fun i hi => ⟨?_, Or.inr ⟨_, _, _, rfl, (by show 0 < 2; decide), fun k hk => ?_⟩⟩⟩
  · rcases (show i = 0 ∨ i = 1 by omega) with rfl | rfl
    · exact top_cell _ _ _ _ (by simp)
    · exact top_cell _ _ _ _ (by simp)
  · have hk2 : k < 2 := hk
    rcases (show i = 0 ∨ i = 1 by omega) with rfl | rfl
    · rw [World.cell?_alloc_lt _ _ _ (by simp; omega), World.cell?_alloc_lt _ _ _ (by simp)]
      rcases (show k = 0 ∨ k = 1 by omega) with rfl | rfl
      · exact top_cell _ _ _ _ rfl
      · exact top_cell _ _ _ _ rfl
    · rw [World.cell?_alloc_lt _ _ _ (by simp)]
      rcases (show k = 0 ∨ k = 1 by omega) with rfl | rfl
      · exact top_cell _ _ _ _ (by simp)
      · exact top_cell _ _ _ _ (by simp)

set_option maxRecDepth 100000 in
set_option maxHeartbeats 4000000 in
theorem swap_any (a : Nat → Addr) (w : World) (hE : Errs w a) : Calls Tryd.prog 4 #[] w fun e w' => e = .returned (.bool true) ∧ Below w.heap.size w w' := by
  obtain ⟨W3, hW3⟩ : ∃ W3, W3 = ((w.alloc (.cells #[.int .i64 0, .int .i64 1] 3)).alloc (.cells #[.int .i64 5, .int .i64 0] 3)).alloc (.cells #[.slice (some ⟨w.heap.size, 0, none⟩) 2 2, .slice (some ⟨w.heap.size + 1, 0, none⟩) 2 2] 37) := ⟨_, rfl⟩
  have hb3 : Below w.heap.size w W3 := by rw [hW3]; exact (((Below.refl _ _).alloc (Nat.le_refl _) _).alloc (by simp) _).alloc (by simp; omega) _
  have htab : TabAt W3 (.slice (some ⟨w.heap.size + 1 + 1, 0, none⟩) 2 2) 2 (fun i => .slice (some ⟨w.heap.size + i, 0, none⟩) 2 2) (fun _ => 2) swapZ := by rw [hW3]; exact swap_table w _ _
  have hst := Stationary_one a _ 2 0 1 _ (fun _ => 2) swapZ W3 (hE.below hb3) htab swap_err [0, 1] swap_closed (by decide) swap_class (by decide)
    (by show 0 < sumTo (often swapZ 2 [0, 1]) 2; rw [swap_sum.2.2]; decide) (by decide)
    (fun i hi => by
      have hi' : i ≤ 2 := hi
      rcases (show i = 0 ∨ i = 1 ∨ i = 2 by omega) with rfl | rfl | rfl
      · rw [swap_sum.1]; decide
      · rw [swap_sum.2.1]; decide
      · rw [swap_sum.2.2]; decide)
    (fun i hi => by
      have hi' : i < 2 := hi
      rcases (show i = 0 ∨ i = 1 by omega) with rfl | rfl
      · exact ⟨by show vis 2 (downTo 2 (fold0 [0, 1] swapZ 2 2) 1 1) 2 0 < _; rw [swap_vis.1]; decide, by rw [swap_often.1]; decide⟩
      · exact ⟨by show vis 2 (downTo 2 (fold0 [0, 1] swapZ 2 2) 1 1) 2 1 < _; rw [swap_vis.2]; decide, by rw [swap_often.2]; decide⟩)
    (fun s hs => by
      rcases (show s = 0 ∨ s = 1 by omega) with rfl | rfl
      · show placed swapZ 2 [0, 1] 2 0 < _; rw [swap_placed.1]; decide
      · show placed swapZ 2 [0, 1] 2 1 < _; rw [swap_placed.2]; decide)
    (fun s hs => by
      rcases (show s = 0 ∨ s = 1 by omega) with rfl | rfl
      · show TellsOk (placed swapZ 2 [0, 1] 2 0) (sumTo (often swapZ 2 [0, 1]) 2); rw [swap_placed.1, swap_sum.2.2]; unfold TellsOk; decide
      · show TellsOk (placed swapZ 2 [0, 1] 2 1) (sumTo (often swapZ 2 [0, 1]) 2); rw [swap_placed.2, swap_sum.2.2]; unfold TellsOk; decide)
  have HB3 := Hid.mk' hb3
  clear hb3 htab hE
  go_enter Tryd.func4, Tryd.ntmps4
  go_wp2_with fail
  rw [← hW3]
  clear hW3
  refine hst.mono ?_
  clear hst
  rintro e w4 ⟨g, rfl, hrow, hb4⟩
  have HROW : Hid (∀ W, Below w4.heap.size w4 W → ∀ j, j < 4 → W.cell? ⟨g, 0 + j, none⟩ = some (.int .i64 (if j % 2 = 0 then 1 else 2))) := fun W hb j hj => by
    rw [Nat.zero_add, ← swap_cell j hj]
    have := (hrow.later hb).row j hj
    rw [show sumTo (often swapZ 2 [0, 1]) [0, 1].length = 10 from swap_sum.2.2] at this
    exact this
  have HB4 := Hid.mk' (below_chain HB3.out hb4)
  clear hrow hb4
  go_wp2_with fail
  obtain ⟨W5, hW5⟩ : ∃ W5, W5 = (w4.alloc (.cells #[.int .i64 1, .int .i64 2] 39)).alloc (.cells #[.int .i64 1, .int .i64 2, .int .i64 1, .int .i64 2] 39) := ⟨_, rfl⟩
  have hb5 : Below w4.heap.size w4 W5 := by rw [hW5]; exact ((Below.refl _ _).alloc (Nat.le_refl _) _).alloc (by simp) _
  have hsame := SameFracs_same g 0 2 (w4.heap.size + 1) 0 2 2 (fun j => if j % 2 = 0 then 1 else 2) W5 (by decide) (HROW.out W5 hb5) (fun j hj => by
    rw [Nat.zero_add, hW5, top_cell _ _ _ j (by simp)]
    rcases (show j = 0 ∨ j = 1 ∨ j = 2 ∨ j = 3 by omega) with rfl | rfl | rfl | rfl <;> rfl)
  have HB5 := Hid.mk' (below_chain HB4.out hb5)
  rw [← hW5]
  clear hW5 hb5
  refine hsame.mono ?_
  clear hsame
  rintro e w6 ⟨rfl, m, rfl⟩
  go_wp2_with fail
  go_ret
  exact ⟨rfl, below_drewsN HB5.out m⟩
end Go.Proofs.YtndjnmnanldgeaaDoor

/- The law ChainValid. -/
namespace Go.Proofs.YtndjnmnanldgeaaDoor
open Go.RowKit

theorem sumT_at {ns : Nat → Nat} {n i : Nat} (hi : i < n) : ns i ≤ sumT ns n := by
  have h1 : sumT ns (i + 1) ≤ sumT ns n := sumT_mono ns hi
  have h2 : sumT ns (i + 1) = sumT ns i + ns i := rfl
  omega
end Go.Proofs.YtndjnmnanldgeaaDoor

/- chain.checkState. -/
namespace Go.Proofs.YtndjnmnanldgeaaDoor
open Go.RowKit

/-- The error of a chain and a state of it, by its number. -/
def stateErr (n : Nat) (ns : Nat → Nat) (zs : Nat → Nat → Int) (i : Int) : Nat := if chainErr n ns zs = 0 then (if i < 0 ∨ (n : Int) ≤ i then 3 else 0) else chainErr n ns zs
set_option maxRecDepth 100000 in
theorem checkState_any (a : Nat → Addr) (v : Value) (n : Nat) (vs : Nat → Value) (ns : Nat → Nat) (zs : Nat → Nat → Int) (i : Int) (w : World) (hE : Errs w a) (h : TabAt w v n vs ns zs) (hn : n ≤ 1000000) :
    Calls Tryd.prog 18 #[v, .int .i64 i] w fun e w' => e = .returned (errV a (stateErr n ns zs i)) ∧ w' = w := by
  have hv := chainValid_any a v n vs ns zs w hE h hn
  obtain ⟨ad, cap, rfl⟩ := h.form
  have hc2 := hE.c2
  unfold stateErr
  by_cases hb : chainErr n ns zs = 0
  · rw [if_pos hb]
    rw [hb, errV_zero] at hv
    by_cases h0 : i < 0
    · rw [if_pos (Or.inl h0), errV_three]
      go_enter Tryd.func18, Tryd.ntmps18
      go_wp2_with fail
      refine hv.mono ?_
      clear hv
      rintro e w1 ⟨rfl, hw1⟩
      go_wp2_with fail
      go_ret
      exact ⟨rfl, rfl⟩
    · have h0' : 0 ≤ i := by omega
      by_cases h1 : (n : Int) ≤ i
      · rw [if_pos (Or.inr h1), errV_three]
        go_enter Tryd.func18, Tryd.ntmps18
        go_wp2_with fail
        refine hv.mono ?_
        clear hv
        rintro e w1 ⟨rfl, hw1⟩
        go_wp2_with fail
        go_ret
        exact ⟨rfl, rfl⟩
      · have h1' : i < (n : Int) := by omega
        rw [if_neg (by omega), errV_zero]
        go_enter Tryd.func18, Tryd.ntmps18
        go_wp2_with fail
        refine hv.mono ?_
        clear hv
        rintro e w1 ⟨rfl, hw1⟩
        go_wp2_with fail
        go_ret
        exact ⟨rfl, rfl⟩
  · rw [if_neg hb, errV_pos a hb]
    rw [errV_pos a hb] at hv
    go_enter Tryd.func18, Tryd.ntmps18
    go_wp2_with fail
    refine hv.mono ?_
    clear hv
    rintro e w1 ⟨rfl, hw1⟩
    go_wp2_with fail
    go_ret
    exact ⟨rfl, rfl⟩
end Go.Proofs.YtndjnmnanldgeaaDoor

/- Breadth first: lengths of ways, as the program and the document seek them. Plain functions. -/
namespace Go.Proofs.YtndjnmnanldgeaaDoor

/-- What is found, in its order, and how long the way is (-1: not found). -/
structure Seen where
  q : List Nat
  L : Nat → Int
/-- The first k states are looked at from x. -/
def look (e : Nat → Nat → Bool) (x : Nat) : Nat → Seen → Seen
  | 0, s => s
  | k + 1, s => if e x k = true ∧ (look e x k s).L k < 0 then ⟨(look e x k s).q ++ [k], fun j => if j = k then (look e x k s).L x + 1 else (look e x k s).L j⟩ else look e x k s
/-- Behind t rounds. -/
def seen (e : Nat → Nat → Bool) (n i : Nat) : Nat → Seen
  | 0 => ⟨[i], fun j => if j = i then 0 else -1⟩
  | t + 1 => if t < (seen e n i t).q.length then look e ((seen e n i t).q.getD t 0) n (seen e n i t) else seen e n i t

/-- What holds of it all the time. -/
structure SeenOk (e : Nat → Nat → Bool) (n i b : Nat) (s : Seen) : Prop where
  nd : s.q.Nodup
  lt : ∀ k, k ∈ s.q → k < n
  yes : ∀ k, k ∈ s.q → 0 ≤ s.L k ∧ s.L k ≤ b
  no : ∀ k, k ∉ s.q → s.L k = -1
  way : ∀ k, k ∈ s.q → k = i ∨ Way e n i k
theorem SeenOk.neg {e : Nat → Nat → Bool} {n i b : Nat} {s : Seen} (h : SeenOk e n i b s) (k : Nat) : s.L k < 0 ↔ k ∉ s.q := by
  constructor
  · intro h1 h2; have := (h.yes k h2).1; omega
  · intro h1; rw [h.no k h1]; omega
theorem SeenOk.len {e : Nat → Nat → Bool} {n i b : Nat} {s : Seen} (h : SeenOk e n i b s) : s.q.length ≤ n := nodup_le n s.q h.nd h.lt
theorem look_ok {e : Nat → Nat → Bool} {n i b x : Nat} {s : Seen} (h : SeenOk e n i b s) (hx : x ∈ s.q) : ∀ k, k ≤ n → SeenOk e n i (b + 1) (look e x k s) ∧ (∃ r, (look e x k s).q = s.q ++ r) ∧ (look e x k s).L x = s.L x ∧ ∀ j, j < k → e x j = true → j ∈ (look e x k s).q
  | 0, _ => ⟨⟨h.nd, h.lt, fun k hk => by have := h.yes k hk; exact ⟨this.1, by show s.L k ≤ _; omega⟩, h.no, h.way⟩, ⟨[], by simp [look]⟩, rfl, fun j hj => by omega⟩
  | k + 1, hk => by
    obtain ⟨h1, ⟨r, h2⟩, h3, h4⟩ := look_ok h hx k (by omega)
    have hxm : x ∈ (look e x k s).q := by rw [h2]; exact List.mem_append_left _ hx
    by_cases hc : e x k = true ∧ (look e x k s).L k < 0
    · have hkn := (h1.neg k).1 hc.2
      have hxk : x ≠ k := fun e => hkn (e ▸ hxm)
      rw [look, if_pos hc]
      refine ⟨⟨?_, fun j hj => ?_, fun j hj => ?_, fun j hj => ?_, fun j hj => ?_⟩, ⟨r ++ [k], by simp [h2]⟩, ?_, fun j hj he => ?_⟩
      · rw [List.nodup_append]
        exact ⟨h1.nd, by simp, fun a ha c hc' => by simp at hc'; subst hc'; exact fun e => hkn (e ▸ ha)⟩
      · rcases List.mem_append.1 hj with hj | hj
        · exact h1.lt j hj
        · simp at hj; omega
      · show 0 ≤ (if j = k then _ else _) ∧ (if j = k then _ else _) ≤ _
        have hxs := h.yes x hx
        by_cases hjk : j = k
        · rw [if_pos hjk, h3]; omega
        · rw [if_neg hjk]
          rcases List.mem_append.1 hj with hj | hj
          · exact h1.yes j hj
          · simp at hj; omega
      · show (if j = k then _ else _) = _
        have hjk : j ≠ k := fun e => hj (by rw [e]; exact List.mem_append_right _ (by simp))
        rw [if_neg hjk]
        exact h1.no j (fun hm => hj (List.mem_append_left _ hm))
      · rcases List.mem_append.1 hj with hj | hj
        · exact h1.way j hj
        · simp at hj
          subst hj
          right
          rcases h.way x hx with rfl | hw
          · exact .one (h.lt x hx) (by omega) hc.1
          · exact hw.last (by omega) hc.1
      · show (if x = k then _ else _) = _
        rw [if_neg hxk, h3]
      · rcases Nat.lt_or_ge j k with h' | h'
        · exact List.mem_append_left _ (h4 j h' he)
        · obtain rfl : j = k := by omega
          exact List.mem_append_right _ (by simp)
    · rw [look, if_neg hc]
      refine ⟨h1, ⟨r, h2⟩, h3, fun j hj he => ?_⟩
      rcases Nat.lt_or_ge j k with h' | h'
      · exact h4 j h' he
      · obtain rfl : j = k := by omega
        refine Classical.byContradiction fun hn => hc ⟨he, (h1.neg j).2 hn⟩
theorem seen_ok {e : Nat → Nat → Bool} {n i : Nat} (hi : i < n) : ∀ t, SeenOk e n i t (seen e n i t) ∧ ∀ j (hj : j < (seen e n i t).q.length), j < t → ∀ k, k < n → e (seen e n i t).q[j] k = true → k ∈ (seen e n i t).q
  | 0 => ⟨⟨by simp [seen], fun k hk => by simp [seen] at hk; omega, fun k hk => by simp [seen] at hk; simp [seen, hk], fun k hk => by simp [seen] at hk; simp [seen, hk], fun k hk => by simp [seen] at hk; exact Or.inl hk⟩, fun j _ hj => by omega⟩
  | t + 1 => by
    obtain ⟨h1, h2⟩ := seen_ok hi t
    by_cases ht : t < (seen e n i t).q.length
    · have hg : (seen e n i t).q.getD t 0 = (seen e n i t).q[t] := by simp [List.getD, ht]
      have hm : (seen e n i t).q[t] ∈ (seen e n i t).q := List.getElem_mem ht
      obtain ⟨h3, ⟨r, h4⟩, _, h5⟩ := look_ok h1 hm n (Nat.le_refl n)
      have hS : seen e n i (t + 1) = look e (seen e n i t).q[t] n (seen e n i t) := by rw [seen, if_pos ht, hg]
      rw [hS]
      refine ⟨h3, fun j hj hjt k hk he => ?_⟩
      have hj2 : j < (seen e n i t).q.length := by omega
      have hq : (look e (seen e n i t).q[t] n (seen e n i t)).q[j] = (seen e n i t).q[j] := by
        have : (look e (seen e n i t).q[t] n (seen e n i t)).q[j]? = (seen e n i t).q[j]? := by rw [h4, List.getElem?_append_left hj2]
        rw [List.getElem?_eq_getElem hj, List.getElem?_eq_getElem hj2] at this
        exact Option.some.inj this
      rw [hq] at he
      rcases Nat.lt_or_ge j t with h' | h'
      · rw [h4]; exact List.mem_append_left _ (h2 j hj2 h' k hk he)
      · obtain rfl : j = t := by omega
        exact h5 k hk he
    · have hS : seen e n i (t + 1) = seen e n i t := by rw [seen, if_neg ht]
      rw [hS]
      refine ⟨⟨h1.nd, h1.lt, fun k hk => by have := h1.yes k hk; omega, h1.no, h1.way⟩, fun j hj hjt => h2 j hj (by omega)⟩
/-- Once all are taken nothing changes. -/
theorem seen_end {e : Nat → Nat → Bool} {n i t : Nat} (h : (seen e n i t).q.length ≤ t) : ∀ u, seen e n i (t + u) = seen e n i t
  | 0 => rfl
  | u + 1 => by
    have ih := seen_end h u
    rw [show t + (u + 1) = t + u + 1 by omega, seen, ih, if_neg (by omega)]
/-- The lengths, at last. -/
def lens (e : Nat → Nat → Bool) (n i : Nat) : Nat → Int := (seen e n i n).L
theorem seen_last {e : Nat → Nat → Bool} {n i t : Nat} (hi : i < n) (h : (seen e n i t).q.length ≤ t) : seen e n i t = seen e n i n := by
  rcases Nat.lt_or_ge n t with h' | h'
  · have hl := (seen_ok (e := e) hi n).1.len
    have := seen_end hl (t - n)
    rwa [show n + (t - n) = t by omega] at this
  · have := seen_end h (n - t)
    rw [show t + (n - t) = n by omega] at this
    exact this.symm
theorem lens_on {e : Nat → Nat → Bool} {n i a b : Nat} (hi : i < n) (ha : 0 ≤ lens e n i a) (hb : b < n) (he : e a b = true) : 0 ≤ lens e n i b := by
  obtain ⟨h1, h2⟩ := seen_ok (e := e) hi n
  have hm : a ∈ (seen e n i n).q := Classical.byContradiction fun hn => by have := h1.no a hn; unfold lens at ha; omega
  obtain ⟨j, hj, hja⟩ := List.getElem_of_mem hm
  have hl := h1.len
  exact (h1.yes b (h2 j hj (by omega) b hb (by rw [hja]; exact he))).1
theorem lens_way {e : Nat → Nat → Bool} {n i a : Nat} (hi : i < n) (ha : 0 ≤ lens e n i a) : a = i ∨ Way e n i a := by
  obtain ⟨h1, _⟩ := seen_ok (e := e) hi n
  exact h1.way a (Classical.byContradiction fun hn => by have := h1.no a hn; unfold lens at ha; omega)
theorem lens_bound {e : Nat → Nat → Bool} {n i : Nat} (hi : i < n) (a : Nat) : -1 ≤ lens e n i a ∧ lens e n i a ≤ n := by
  obtain ⟨h1, _⟩ := seen_ok (e := e) hi n
  unfold lens
  by_cases hm : a ∈ (seen e n i n).q
  · have := h1.yes a hm; omega
  · rw [h1.no a hm]; omega
end Go.Proofs.YtndjnmnanldgeaaDoor

/- A queue of states in memory: a slice at any offset that is taken from in front and appended to behind. -/
namespace Go.Proofs.YtndjnmnanldgeaaDoor
open Go.RowKit

/-- The queue: its numbers, its room, none of it frozen; it lies in no block below B. -/
structure QueueAt (B : Nat) (w : World) (b o cap : Nat) (l : List Nat) : Prop where
  low : B ≤ b
  le : l.length ≤ cap
  max : cap ≤ maxLen
  nums : ∀ j (hj : j < l.length), w.cell? ⟨b, o + j, none⟩ = some (.int .i64 (l[j] : Int))
  room : ∀ j, j < cap → (w.cell? ⟨b, o + j, none⟩).isSome = true ∧ w.frozen? ⟨b, o + j, none⟩ = false

theorem QueueAt.tail {B : Nat} {w : World} {b o cap x : Nat} {l : List Nat} (h : QueueAt B w b o cap (x :: l)) : QueueAt B w b (o + 1) (cap - 1) l := by
  have hle := h.le
  simp only [List.length_cons] at hle
  refine ⟨h.low, by omega, by have := h.max; omega, fun j hj => ?_, fun j hj => ?_⟩
  · have := h.nums (j + 1) (by simp; omega)
    rw [show o + (j + 1) = o + 1 + j by omega] at this
    simpa using this
  · have := h.room (j + 1) (by omega)
    rwa [show o + (j + 1) = o + 1 + j by omega] at this
theorem QueueAt.carry {B : Nat} {w w' : World} {b o cap : Nat} {l : List Nat} (h : QueueAt B w b o cap l) (hb : w'.heap[b]? = w.heap[b]?) : QueueAt B w' b o cap l :=
  ⟨h.low, h.le, h.max, fun j hj => (World.cell?_of_block (a := ⟨b, o + j, none⟩) hb).trans (h.nums j hj), fun j hj => ⟨by rw [World.cell?_of_block (a := ⟨b, o + j, none⟩) hb]; exact (h.room j hj).1, (World.frozen?_of_block (a := ⟨b, o + j, none⟩) hb).trans (h.room j hj).2⟩⟩
def natCells (l : List Nat) : List Value := l.map fun (x : Nat) => Value.int .i64 (x : Int)
theorem natCells_at {l : List Nat} {j : Nat} {u : Value} (h : (natCells l)[j]? = some u) : ∃ hj : j < l.length, u = .int .i64 (l[j] : Int) := by
  simp only [natCells, List.getElem?_map, Option.map_eq_some_iff] at h
  obtain ⟨x, hx, rfl⟩ := h
  obtain ⟨hj, rfl⟩ := List.getElem?_eq_some_iff.1 hx
  exact ⟨hj, rfl⟩

theorem run_append_queue {P : Program} (w : World) (t ty e : TypeId) (i : TypeInfo) (z : Value) (ht : P.underlying t = some (.slice e)) (hi : P.info? e = some i) (hz : i.zero = some z) (hsize : i.size = 1) (hby : i.bytes = 8) (hzs : z.cells.size = 1)
    {B b o cap : Nat} {l : List Nat} (h : QueueAt B w b o cap l) (hB : B ≤ w.heap.size) (hl : l.length ≤ 1000) (ad : Addr) (c x : Nat) (hx : w.cell? ad = some (.int .i64 (x : Int))) :
    ∃ b' o' cap' w', (Builtin.append_ #[t, t] ty #[.slice (some ⟨b, o, none⟩) l.length cap, .slice (some ad) 1 c]).run P w = .ok (.slice (some ⟨b', o', none⟩) (l.length + 1) cap') w' ∧ QueueAt B w' b' o' cap' (l ++ [x]) ∧ Below B w w' := by
  have hnews : ∀ j u, [Value.int .i64 (x : Int)][j]? = some u → w.cell? (ad.add j) = some u := by
    intro j u hu
    rcases j with _ | j
    · rw [show ad.add 0 = ad by cases ad; simp [Addr.add]]
      rw [hx]; simpa using hu
    · simp at hu
  by_cases hr : l.length + 1 ≤ cap
  · have hrun := run_append_room_cells (P := P) w t ty e i ht hi b o l.length cap ad 1 c [.int .i64 (x : Int)] (by rw [hsize]; rfl) hnews (by simp [Value.oneCell']) hr
      (fun j hj => by rw [hsize, Nat.mul_one]; simp at hj; subst hj; exact (h.room l.length (by omega)).1)
      (fun j hj => by rw [hsize, Nat.mul_one]; simp at hj; subst hj; exact (h.room l.length (by omega)).2)
    rw [hsize, Nat.mul_one] at hrun
    obtain ⟨u, hu⟩ := Option.isSome_iff_exists.1 (h.room l.length (by omega)).1
    refine ⟨b, o, cap, _, hrun, ⟨h.low, by simp; omega, h.max, fun j hj => ?_, fun j hj => ⟨?_, ?_⟩⟩, (Below.refl _ _).setCell h.low _⟩
    · simp only [World.setCells]
      simp only [List.length_append, List.length_cons, List.length_nil] at hj
      by_cases hjl : j < l.length
      · rw [World.cell?_setCell_other _ _ _ _ (fun e => by have := congrArg Addr.off e; simp at this; omega), List.getElem_append_left hjl]
        exact h.nums j hjl
      · obtain rfl : j = l.length := by omega
        rw [List.getElem_append_right (by omega)]
        simpa using World.cell?_setCell_same _ _ _ hu
    · simp only [World.setCells]
      by_cases hjl : j = l.length
      · subst hjl
        rw [World.cell?_setCell_same _ _ _ hu]; rfl
      · rw [World.cell?_setCell_other _ _ _ _ (fun e => by have := congrArg Addr.off e; simp at this; omega)]
        exact (h.room j hj).1
    · rw [World.frozen?_setCells]
      exact (h.room j hj).2
  · have hlen : (natCells l).length = l.length := by simp [natCells]
    obtain ⟨v', w', hrun, hown, hg⟩ := run_append_arg_grows (P := P) w t ty e i z 1 8 ht hi hz hsize hby hzs (by omega) ⟨b, o, none⟩ l.length cap (natCells l) (by omega)
      (fun j u hu => by obtain ⟨hj, rfl⟩ := natCells_at hu; rw [show (⟨b, o, none⟩ : Addr).add j = ⟨b, o + j, none⟩ by simp [Addr.add]]; exact h.nums j hj)
      ad 1 c [.int .i64 (x : Int)] rfl hnews (by omega) (by unfold maxLen; omega) (by omega)
    have hbel : Below B w w' := ((Below.refl _ _).grown hg (Nat.le_refl _) (fun k hk => by cases hk)).mono hB
    obtain ⟨hl2, hr2⟩ := hown
    rcases hr2 with ⟨hx2, hn2, _⟩ | ⟨g, cap', cur, hv, hb, hh, hle, hmx, hs, htk⟩
    · subst hv
      have hcl : (natCells l ++ [Value.int .i64 (x : Int)]).length = l.length + 1 := by simp [natCells]
      refine ⟨g, 0, cap', w', hrun, ⟨by omega, by simp; omega, hmx, fun j hj => ?_, fun j hj => ⟨?_, ?_⟩⟩, hbel⟩
      · simp only [List.length_append, List.length_cons, List.length_nil] at hj
        have e1 : w'.cell? ⟨g, 0 + j, none⟩ = cur.toList[j]? := by simp [World.cell?, hh]
        rw [e1, ← List.getElem?_take_of_lt (show j < (l.length + 1) * 1 by omega), htk]
        by_cases hjl : j < l.length
        · rw [List.getElem?_append_left (by omega), List.getElem_append_left hjl]
          simp [natCells, hjl]
        · obtain rfl : j = l.length := by omega
          rw [List.getElem?_append_right (by omega), List.getElem_append_right (by omega)]
          simp [hlen]
      · have e1 : w'.cell? ⟨g, 0 + j, none⟩ = cur.toList[j]? := by simp [World.cell?, hh]
        rw [e1]
        simp
        omega
      · simp [World.frozen?, hh]

theorem wpList_append_queue {P : Program} (w : World) {ops : Array Oper} {rest : List Oper} {o : Oper} {a : Act} {Q : Exit → Act → World → Prop} (hgd : o.guard = none) (s x : Operand) (t : TypeId)
    (ho : o.op = .call { callee := .builtin .append, args := #[s, x], argTypes := #[t, t] }) (e : TypeId) (i : TypeInfo) (z : Value) (ht : P.underlying t = some (.slice e)) (hi : P.info? e = some i) (hz : i.zero = some z) (hsize : i.size = 1) (hby : i.bytes = 8) (hzs : z.cells.size = 1)
    (B b f cap : Nat) (l : List Nat) (h : QueueAt B w b f cap l) (hs : a.eval s = .slice (some ⟨b, f, none⟩) l.length cap) (hB : B ≤ w.heap.size) (hl : l.length ≤ 1000) (ad : Addr) (c y : Nat) (hx : a.eval x = .slice (some ad) 1 c) (hy : w.cell? ad = some (.int .i64 (y : Int)))
    (hK : ∀ b' f' cap' w', QueueAt B w' b' f' cap' (l ++ [y]) → Below B w w' → wpList P ops Q rest (a.put o.dst (.slice (some ⟨b', f', none⟩) (l.length + 1) cap')) w') : wpList P ops Q (o :: rest) a w := by
  refine wpList_plain hgd fun K hK' => ?_
  obtain ⟨b', f', cap', w', hr, h2, h3⟩ := run_append_queue (P := P) w t o.type e i z ht hi hz hsize hby hzs h hB hl ad c y hy
  unfold Oper.wp execOp
  simp only [ho, resolve, invoke, builtin, Sem.run_bind, Sem.run_pure, Result.andThen_ok, List.map_toArray, List.map_cons, List.map_nil, hs, hx, hr]
  exact hK' _ _ (hK b' f' cap' w' h2 h3)
end Go.Proofs.YtndjnmnanldgeaaDoor

/- chain.lengths: breadth first. -/
namespace Go.Proofs.YtndjnmnanldgeaaDoor
open Go.RowKit

theorem Fills.past {w wr wn : World} {g T : Nat} {f : Nat → Int} (h : Fills w wr g T f) (hb : Below (g + 1) wr wn) : Fills w wn g T f :=
  ⟨fun i hi => by rw [hb.cell (by show g < g + 1; omega)]; exact h.row i hi, fun i hi => by rw [hb.frozen (by show g < g + 1; omega)]; exact h.fz i hi, h.below.trans (hb.mono (by have := h.hg; omega)), h.hg⟩
theorem Fills.congrF {w wr : World} {g T : Nat} {f f' : Nat → Int} (h : Fills w wr g T f) (he : ∀ i, i < T → f i = f' i) : Fills w wr g T f' :=
  ⟨fun i hi => by rw [← he i hi]; exact h.row i hi, h.fz, h.below, h.hg⟩
theorem QueueAt.alloc {B : Nat} {w : World} {b o cap : Nat} {l : List Nat} (h : QueueAt B w b o cap l) (x : Obj) : QueueAt B (w.alloc x) b o cap l := by
  by_cases hb : b < w.heap.size
  · exact h.carry (Below.heap_alloc w x b hb)
  · have hc : cap = 0 := by
      rcases Nat.eq_zero_or_pos cap with h0 | h0
      · exact h0
      · obtain ⟨u, hu⟩ := Option.isSome_iff_exists.1 (h.room 0 h0).1
        exact absurd (World.block_lt_of_cell? _ _ hu) hb
    have hl := h.le
    exact ⟨h.low, h.le, h.max, fun j hj => by omega, fun j hj => by omega⟩
theorem QueueAt.setOther {B : Nat} {w : World} {b o cap : Nat} {l : List Nat} (h : QueueAt B w b o cap l) {p : Addr} (hp : p.block < B) (x : Value) : QueueAt B (w.setCell p x) b o cap l :=
  h.carry (Below.heap_setCell _ _ _ _ (by have := h.low; omega))
theorem QueueAt.mono {B B' : Nat} {w : World} {b o cap : Nat} {l : List Nat} (h : QueueAt B w b o cap l) (hB : B' ≤ B) : QueueAt B' w b o cap l := ⟨Nat.le_trans hB h.low, h.le, h.max, h.nums, h.room⟩
theorem queue_one (w : World) (t : TypeId) (x : Nat) : QueueAt w.heap.size (w.alloc (.cells #[.int .i64 (x : Int)] t)) w.heap.size 0 1 [x] := by
  have hc : ∀ j, j < 1 → (w.alloc (.cells #[.int .i64 (x : Int)] t)).cell? ⟨w.heap.size, 0 + j, none⟩ = some (.int .i64 (x : Int)) := fun j hj => by
    obtain rfl : j = 0 := by omega
    exact World.cell?_alloc_new w _ _ 0
  refine ⟨Nat.le_refl _, by simp, by decide, fun j hj => ?_, fun j hj => ⟨by rw [hc j hj]; rfl, World.frozen?_alloc_new w _ _ _⟩⟩
  obtain rfl : j = 0 := by simp at hj; omega
  exact hc 0 (by omega)
theorem look_le {e : Nat → Nat → Bool} {n i b x k : Nat} {s : Seen} (h : SeenOk e n i b s) (hx : x ∈ s.q) (hk : k ≤ n) : s.q.length ≤ (look e x k s).q.length := by
  obtain ⟨_, ⟨r, h2⟩, _⟩ := look_ok h hx k hk
  rw [h2]; simp

set_option maxRecDepth 100000 in
set_option maxHeartbeats 4000000 in
theorem lengths_any (v : Value) (n i : Nat) (zs : Nat → Nat → Int) (w : World) (h : RowsAt w v n zs) (hn : n ≤ 8) (hi : i < n) :
    Calls Tryd.prog 20 #[v, .int .i64 i] w fun e w' => ∃ g, e = .returned (.slice (some ⟨g, 0, none⟩) n n) ∧ RowAt w' g 0 n (lens (edge zs) n i) ∧ Below w.heap.size w w' := by
  obtain ⟨i0, hii, hz0, hz1, hz2⟩ := info_parts Tryd.infoInt
  have HINF : Hid (Tryd.prog.info? 3 = some i0 ∧ i0.zero = some (.int .i64 0) ∧ i0.size = 1 ∧ i0.bytes = 8) := ⟨hii, hz0, hz1, hz2⟩
  clear hii hz0 hz1 hz2
  obtain ⟨b, o, cap, rfl, hr⟩ := h
  have HR : Hid (∀ W, Below w.heap.size w W → ∀ i, i < n → ∃ b1 o1 cap1, W.cell? ⟨b, o + i, none⟩ = some (.slice (some ⟨b1, o1, none⟩) n cap1) ∧ ∀ k, k < n → W.cell? ⟨b1, o1 + k, none⟩ = some (.int .i64 (zs i k))) := fun W hb i hi => by
    obtain ⟨b1, o1, c1, h1, h2⟩ := hr i hi
    exact ⟨b1, o1, c1, by rw [hb.cell (cell_lt h1)]; exact h1, fun k hk => by rw [hb.cell (cell_lt (h2 k hk))]; exact h2 k hk⟩
  clear hr
  have hin : (i : Int) < (n : Int) := by omega
  have hi0 : (0 : Int) ≤ (i : Int) := by omega
  go_enter Tryd.func20, Tryd.ntmps20
  go_wp2_with (at_make; go_must (refine wpList_make_full _ rfl _ _ _ rfl w.heap.size 3 i0 _ 1 Tryd.underlying37 HINF.out.1 HINF.out.2.1 HINF.out.2.2.1 .i64 .i64 _ _ n rfl rfl rfl rfl (by rw [HINF.out.2.2.2]; omega) (by unfold maxLen; omega) (Nat.le_refl _) ?_; intro w2 hown2 hgrow2; have HF2 := Hid.mk' (fills_made hown2 (made_zero n) hgrow2); clear hown2 hgrow2))
  go_loopw [15] (fun i wr => ∃ k : Nat, k ≤ n ∧ i = .int .i64 k ∧ Hid (Fills w wr w.heap.size n (fun j => if j < k then -1 else 0))) (fun i _ => n - (intOf i).toNat)
  case atStart => exact ⟨0, Nat.zero_le _, rfl, by simpa using HF2⟩
  case round =>
    clear HF2
    obtain ⟨k, hk, rfl, HF⟩ := hrel
    rcases Nat.lt_or_ge k n with h1 | h1
    · have hkn : (k : Int) < (n : Int) := by omega
      have hk0 : (0 : Int) ≤ (k : Int) := by omega
      have hcF := HF.out.row k h1
      have hfz := HF.out.fz k h1
      rw [Nat.zero_add] at hcF hfz
      rw [if_neg (by omega)] at hcF
      have HS := Hid.mk' (HF.out.set h1 (-1) (f' := fun j => if j < k + 1 then -1 else 0) (fun c hc => by
        by_cases h5 : c = k
        · rw [if_pos (by omega), if_pos h5]
        · rw [if_neg h5]
          by_cases h6 : c < k
          · rw [if_pos (by omega), if_pos h6]
          · rw [if_neg (by omega), if_neg h6]))
      go_wp2_with fail
      exact ⟨⟨k + 1, h1, by go_num, HS⟩, by simp [intOf]; omega⟩
    · obtain rfl : k = n := by omega
      have hcF := HF.out.row i hi
      have hfz := HF.out.fz i hi
      rw [Nat.zero_add] at hcF hfz
      rw [if_pos hi] at hcF
      have HS := Hid.mk' (HF.out.set hi 0 (f' := (seen (edge zs) k i 0).L) (fun c hc => by
        show (if c = i then (0 : Int) else -1) = _
        by_cases h5 : c = i
        · rw [if_pos h5, if_pos h5]
        · rw [if_neg h5, if_neg h5, if_pos hc]))
      clear HF
      have HQ1 := Hid.mk' (queue_one (wr.setCell ⟨w.heap.size, i, none⟩ (.int .i64 0)) 3 i)
      have hsz : w.heap.size < wr.heap.size := cell_lt hcF
      have hsz2 : (wr.setCell ⟨w.heap.size, i, none⟩ (.int .i64 0)).heap.size = wr.heap.size := by simp
      have HQ := Hid.mk' (And.intro HQ1.out hsz2)
      clear HQ1 hsz2
      go_wp2_with fail
      go_loopg [7] (k + 1) (fun gk f wx => ∃ (t b o cap : Nat) (l : List Nat), f = .slice (some ⟨b, o, none⟩) l.length cap ∧ Hid (gk + t = k + 1 ∧ t ≤ (seen (edge zs) k i t).q.length ∧ l = (seen (edge zs) k i t).q.drop t) ∧ Hid (QueueAt (w.heap.size + 1) wx b o cap l) ∧ Hid (Fills w wx w.heap.size k (seen (edge zs) k i t).L))
      case atStart =>
        obtain ⟨h5, h6⟩ := HQ.out
        rw [h6] at h5
        refine ⟨0, wr.heap.size, 0, 1, [i], rfl, ⟨rfl, by simp, by simp [seen]⟩, h5.mono hsz, HS.out.past ((Below.refl _ _).alloc (by rw [h6]; exact hsz) _)⟩
      case round =>
        clear HQ HS hcF hfz
        obtain ⟨t, b2, o2, cap2, l, rfl, HT, HQ, HF⟩ := hrel
        have hok := seen_ok (e := edge zs) hi t
        cases l with
        | nil =>
          have hlast : seen (edge zs) k i t = seen (edge zs) k i k := seen_last hi (by have := HT.out.2.2; exact Nat.le_of_not_lt fun hlt => by rw [List.drop_eq_getElem_cons hlt] at this; cases this)
          have HL := Hid.mk' hlast
          clear hlast hok
          go_wp2_with fail
          go_ret
          exact ⟨_, rfl, by have := HF.out.row; rw [HL.out] at this; exact this, HF.out.below⟩
        | cons x l =>
          obtain ⟨s, hs⟩ : ∃ s, s = seen (edge zs) k i t := ⟨_, rfl⟩
          rw [← hs] at hok HF
          have htl : t < s.q.length := by
            have := HT.out.2.2
            rw [← hs] at this
            exact Classical.byContradiction fun hn => by rw [List.drop_eq_nil_of_le (by omega)] at this; cases this
          have hdr : x = s.q[t] ∧ l = s.q.drop (t + 1) := by
            have := HT.out.2.2
            rw [← hs, List.drop_eq_getElem_cons htl] at this
            exact List.cons.inj this
          have hxm : x ∈ s.q := by rw [hdr.1]; exact List.getElem_mem htl
          have hxk : x < k := hok.1.lt x hxm
          have hnext : seen (edge zs) k i (t + 1) = look (edge zs) x k s := by
            rw [seen, ← hs, if_pos htl, hdr.1]
            simp [List.getD, htl]
          have HOK := Hid.mk' hok.1
          have HX := Hid.mk' hxm
          have HD := Hid.mk' hdr.2
          have HN := Hid.mk' hnext
          have HTL := Hid.mk' htl
          have hx0 : (0 : Int) ≤ (x : Int) := by omega
          have hxki : (x : Int) < (k : Int) := by omega
          have hc0 : wr.cell? ⟨b2, o2, none⟩ = some (.int .i64 (x : Int)) := HQ.out.nums 0 (by simp)
          have HQ2 := Hid.mk' HQ.out.tail
          have hcap : l.length + 1 ≤ cap2 := HQ.out.le
          have HQ0 : Hid (cap2 = 1 → QueueAt (w.heap.size + 1) wr b2 o2 0 l) := fun h1 => ⟨HQ.out.low, by have := HQ.out.le; simp at this; omega, by decide, fun j hj => by have := HQ.out.le; simp at this; omega, fun j hj => by omega⟩
          have htk : t < k := by have h5 := hok.1.len; omega
          clear hok hxm hdr hnext htl hs HQ
          go_wp2_with fail
          all_goals
            go_loopw [7, 37] (fun f kk wx => ∃ (m b o cap : Nat) (l : List Nat), m ≤ k ∧ kk = .int .i64 m ∧ f = .slice (some ⟨b, o, none⟩) l.length cap ∧ Hid (l = (look (edge zs) x m s).q.drop (t + 1)) ∧ Hid (QueueAt (w.heap.size + 1) wx b o cap l) ∧ Hid (Fills w wx w.heap.size k (look (edge zs) x m s).L)) (fun _ kk _ => k - (intOf kk).toNat)
            case atStart => first | exact ⟨0, b2, o2 + 1, cap2 - 1, l, Nat.zero_le _, rfl, rfl, HD, HQ2, HF⟩ | exact ⟨0, b2, o2, 0, l, Nat.zero_le _, rfl, rfl, HD, HQ0.out (by assumption), HF⟩
            case round =>
              clear HF HQ0 HQ2 hc0
              obtain ⟨m, b3, o3, cap3, l3, hm, rfl, rfl, HL3, HQ3, HF3⟩ := hrel
              rcases Nat.lt_or_ge m k with h2 | h2
              · have hmk : (m : Int) < (k : Int) := by omega
                have hm0 : (0 : Int) ≤ (m : Int) := by omega
                obtain ⟨b1, o1, cap1, hr1, hr2⟩ := HR.out wr HF3.out.below x hxk
                have hrc := hr2 m h2
                clear hr2
                obtain ⟨hlk, _, hlx, _⟩ := look_ok HOK.out HX.out m (by omega)
                have hlen := hlk.len
                have hl3 : l3.length ≤ 8 := by rw [HL3.out]; simp; omega
                have hcL := HF3.out.row m h2
                have hfz := HF3.out.fz m h2
                have hcX := HF3.out.row x hxk
                rw [Nat.zero_add] at hcL hfz hcX
                have hyb : 0 ≤ s.L x ∧ s.L x ≤ 8 := by have := HOK.out.yes x HX.out; omega
                rw [hlx] at hcX
                by_cases hz : 0 < zs x m
                · by_cases hy : (look (edge zs) x m s).L m < 0
                  · have HLK : Hid (look (edge zs) x (m + 1) s = ⟨(look (edge zs) x m s).q ++ [m], fun j => if j = m then (look (edge zs) x m s).L x + 1 else (look (edge zs) x m s).L j⟩) := by show _ = _; rw [look, if_pos ⟨by simp [edge, hz], hy⟩]
                    have HSET := Hid.mk' (HF3.out.set h2 (s.L x + 1) (f' := (look (edge zs) x (m + 1) s).L) (fun c hc => by rw [HLK.out]; show (if c = m then _ else _) = _; rw [hlx]))
                    have HQS := Hid.mk' (HQ3.out.setOther (p := ⟨w.heap.size, m, none⟩) (by show w.heap.size < w.heap.size + 1; omega) (.int .i64 (s.L x + 1)))
                    have HDR : Hid (l3 ++ [m] = (look (edge zs) x (m + 1) s).q.drop (t + 1)) := by
                      show _ = _
                      have h5 := look_le HOK.out HX.out (show m ≤ k by omega)
                      have h6 := HTL.out
                      rw [HLK.out, HL3.out, List.drop_append_of_le_length (by omega)]
                    have hszr : w.heap.size < wr.heap.size := cell_lt hcX
                    clear hlk hlx hlen
                    generalize s.L x = y2 at hcX hyb HSET HQS
                    generalize (look (edge zs) x m s).L m = y at hcL hy
                    generalize zs x m = z at hrc hz
                    go_wp2_with (at_builtin; go_must (refine wpList_append_queue _ rfl _ _ _ rfl 3 i0 _ Tryd.underlying37 HINF.out.1 HINF.out.2.1 HINF.out.2.2.1 HINF.out.2.2.2 rfl (w.heap.size + 1) b3 o3 cap3 l3 (HQS.out.alloc _) rfl (by simp; omega) (by omega) ⟨wr.heap.size, 0, none⟩ 1 m rfl (by rw [World.cell?_alloc_at _ _ _ _ (by simp)]; rfl) ?_; intro b5 o5 cap5 w5 hq5 hb5; have HQ5 := Hid.mk' hq5; have HB5 := Hid.mk' hb5; clear hq5 hb5))
                    exact ⟨⟨m + 1, b5, o5, cap5, l3 ++ [m], h2, by go_num, by simp, HDR, HQ5, HSET.out.past (((Below.refl _ _).alloc (by simp; omega) _).trans HB5.out)⟩, by simp [intOf]; omega⟩
                  · have HLK : Hid (look (edge zs) x (m + 1) s = look (edge zs) x m s) := by show _ = _; rw [look, if_neg (fun h => hy h.2)]
                    have hy' : 0 ≤ (look (edge zs) x m s).L m := by omega
                    clear hy hlk hlx hlen
                    generalize (look (edge zs) x m s).L m = y at hcL hy'
                    generalize zs x m = z at hrc hz
                    go_wp2_with fail
                    exact ⟨⟨m + 1, b3, o3, cap3, l3, h2, by go_num, rfl, by rw [HLK.out]; exact HL3, HQ3, by rw [HLK.out]; exact HF3⟩, by simp [intOf]; omega⟩
                · have HLK : Hid (look (edge zs) x (m + 1) s = look (edge zs) x m s) := by show _ = _; rw [look, if_neg (fun h => hz (by simpa [edge] using h.1))]
                  clear hlk hlx hlen
                  generalize (look (edge zs) x m s).L m = y at hcL
                  generalize zs x m = z at hrc hz
                  have hz' : z ≤ 0 := by omega
                  clear hz
                  go_wp2_with fail
                  exact ⟨⟨m + 1, b3, o3, cap3, l3, h2, by go_num, rfl, by rw [HLK.out]; exact HL3, HQ3, by rw [HLK.out]; exact HF3⟩, by simp [intOf]; omega⟩
              · obtain rfl : k = m := by omega
                go_wp2_with fail
                go_roundg (gk - 1)
                case measure => have := HT.out.1; omega
                case rel => exact ⟨t + 1, b3, o3, cap3, l3, rfl, ⟨by have := HT.out.1; omega, by rw [HN.out]; have := look_le HOK.out HX.out (Nat.le_refl k); have := HTL.out; omega, by rw [HN.out]; exact HL3.out⟩, HQ3, by rw [HN.out]; exact HF3⟩
end Go.Proofs.YtndjnmnanldgeaaDoor

/- chain.Period. -/
namespace Go.Proofs.YtndjnmnanldgeaaDoor
open Go.RowKit

def perIn (c : Nat → Nat → Bool) (d : Nat → Nat → Int) (x : Nat) : Nat → Nat → Nat
  | 0, g => g
  | k + 1, g => if c x k = true then Int.gcd (perIn c d x k g : Int) (d x k) else perIn c d x k g
def perOut (c : Nat → Nat → Bool) (d : Nat → Nat → Int) (n : Nat) : Nat → Nat
  | 0 => 0
  | x + 1 => perIn c d x n (perOut c d n x)
/-- Steps that lie on a way back. -/
def onBack (zs : Nat → Nat → Int) (n i x k : Nat) : Bool := decide (0 ≤ lens (edge zs) n i x) && edge zs x k && war (edge zs) n k i
def stepD (zs : Nat → Nat → Int) (n i x k : Nat) : Int := lens (edge zs) n i x + 1 - lens (edge zs) n i k

theorem gcd_small {a : Nat} {b : Int} (ha : a ≤ 100) (hb : -100 ≤ b ∧ b ≤ 100) : Int.gcd (a : Int) b ≤ 100 := by
  rcases Nat.eq_zero_or_pos a with h0 | h0
  · subst h0; simp; omega
  · have : Int.gcd (a : Int) b ≤ a := by rw [Int.gcd, Int.natAbs_natCast]; exact Nat.le_of_dvd h0 (Nat.gcd_dvd_left _ _)
    omega
theorem perIn_le {c : Nat → Nat → Bool} {d : Nat → Nat → Int} {x g : Nat} (hg : g ≤ 100) (hd : ∀ k, -100 ≤ d x k ∧ d x k ≤ 100) : ∀ k, perIn c d x k g ≤ 100
  | 0 => hg
  | k + 1 => by
    rw [perIn]; split
    · exact gcd_small (perIn_le hg hd k) (hd k)
    · exact perIn_le hg hd k
theorem perOut_le {c : Nat → Nat → Bool} {d : Nat → Nat → Int} {n : Nat} (hd : ∀ x k, -100 ≤ d x k ∧ d x k ≤ 100) : ∀ x, perOut c d n x ≤ 100
  | 0 => by simp [perOut]
  | x + 1 => perIn_le (perOut_le hd x) (hd x) n
theorem stepD_le {zs : Nat → Nat → Int} {n i : Nat} (hn : n ≤ 8) (hi : i < n) (x k : Nat) : -100 ≤ stepD zs n i x k ∧ stepD zs n i x k ≤ 100 := by
  have h1 := lens_bound (e := edge zs) hi x
  have h2 := lens_bound (e := edge zs) hi k
  unfold stepD; omega

set_option maxRecDepth 100000 in
set_option maxHeartbeats 4000000 in
theorem Period_ok (a : Nat → Addr) (v : Value) (n i : Nat) (vs : Nat → Value) (ns : Nat → Nat) (zs : Nat → Nat → Int) (w : World) (hE : Errs w a) (h : TabAt w v n vs ns zs) (hok : chainErr n ns zs = 0) (hi : i < n) :
    Calls Tryd.prog 8 #[v, .int .i64 i] w fun e w' => e = .returned (.tuple #[.int .i64 (perOut (onBack zs n i) (stepD zs n i) n n : Nat), .nilIface]) ∧ Below w.heap.size w w' := by
  obtain ⟨hn0, hn8, hns, hW⟩ := chainErr_ok hok
  have hcs := checkState_any a v n vs ns zs i w hE h (by omega)
  rw [show stateErr n ns zs (i : Int) = 0 by unfold stateErr; rw [if_pos hok, if_neg (by omega)], errV_zero] at hcs
  have hrw := rowsAt_of_tab h hn0 hns
  have hre := reach_any v n zs w hrw hn8
  have HLE : Hid (∀ w1, Below w.heap.size w w1 → Calls Tryd.prog 20 #[v, .int .i64 i] w1 fun e w' => ∃ g, e = .returned (.slice (some ⟨g, 0, none⟩) n n) ∧ RowAt w' g 0 n (lens (edge zs) n i) ∧ Below w1.heap.size w1 w') := fun w1 hb => lengths_any v n i zs w1 (hrw.later hb) hn8 hi
  clear hns hW hE h hok
  obtain ⟨b, o, cap, rfl, hr⟩ := hrw
  have HR : Hid (∀ W, Below w.heap.size w W → ∀ i, i < n → ∃ b1 o1 cap1, W.cell? ⟨b, o + i, none⟩ = some (.slice (some ⟨b1, o1, none⟩) n cap1) ∧ ∀ k, k < n → W.cell? ⟨b1, o1 + k, none⟩ = some (.int .i64 (zs i k))) := fun W hb i hi => by
    obtain ⟨b1, o1, c1, h1, h2⟩ := hr i hi
    exact ⟨b1, o1, c1, by rw [hb.cell (cell_lt h1)]; exact h1, fun k hk => by rw [hb.cell (cell_lt (h2 k hk))]; exact h2 k hk⟩
  clear hr
  have hin : (i : Int) < (n : Int) := by omega
  have hi0 : (0 : Int) ≤ (i : Int) := by omega
  go_enter Tryd.func8, Tryd.ntmps8
  go_wp2_with fail
  refine hcs.mono ?_
  clear hcs
  rintro e w0 ⟨rfl, hw0⟩
  go_wp2_with fail
  refine hre.mono ?_
  clear hre
  rintro e w1 ⟨r, rfl, hgr, hb1⟩
  obtain ⟨b4, o4, cap4, rfl, hr4⟩ := hgr
  have HR4 : Hid (∀ W, Below w1.heap.size w1 W → ∀ i, i < n → ∃ b1 o1 cap1, W.cell? ⟨b4, o4 + i, none⟩ = some (.slice (some ⟨b1, o1, none⟩) n cap1) ∧ ∀ k, k < n → W.cell? ⟨b1, o1 + k, none⟩ = some (.bool (war (edge zs) n i k))) := fun W hb i hi => by
    obtain ⟨b1, o1, c1, h1, h2⟩ := hr4 i hi
    exact ⟨b1, o1, c1, by rw [hb.cell (cell_lt h1)]; exact h1, fun k hk => by rw [hb.cell (cell_lt (h2 k hk))]; exact h2 k hk⟩
  have HB1 := Hid.mk' hb1
  clear hr4 hb1
  go_wp2_with fail
  refine (HLE.out w1 HB1.out).mono ?_
  clear HLE
  rintro e w2 ⟨g2, rfl, hrow, hb2⟩
  have HL := Hid.mk' hrow
  have HB2 := Hid.mk' hb2
  clear hrow hb2
  go_wp2_with fail
  go_loopw [9, 25] (fun g kk wr => ∃ x : Nat, x ≤ n ∧ kk = .int .i64 x ∧ g = .int .i64 (perOut (onBack zs n i) (stepD zs n i) n x : Nat) ∧ Hid (Below w2.heap.size w2 wr)) (fun _ kk _ => n - (intOf kk).toNat)
  case atStart => exact ⟨0, Nat.zero_le _, rfl, rfl, Below.refl _ _⟩
  case round =>
    obtain ⟨x, hx, rfl, rfl, HB⟩ := hrel
    rcases Nat.lt_or_ge x n with h1 | h1
    · have hxn : (x : Int) < (n : Int) := by omega
      have hx0 : (0 : Int) ≤ (x : Int) := by omega
      go_wp2_with fail
      go_loopw [9, 30] (fun g kk wr => ∃ m : Nat, m ≤ n ∧ kk = .int .i64 m ∧ g = .int .i64 (perIn (onBack zs n i) (stepD zs n i) x m (perOut (onBack zs n i) (stepD zs n i) n x) : Nat) ∧ Hid (Below w2.heap.size w2 wr)) (fun _ kk _ => n - (intOf kk).toNat)
      case atStart => exact ⟨0, Nat.zero_le _, rfl, rfl, HB⟩
      case round =>
        clear HB
        obtain ⟨m, hm, rfl, rfl, HB⟩ := hrel
        rcases Nat.lt_or_ge m n with h2 | h2
        · have hmn : (m : Int) < (n : Int) := by omega
          have hm0 : (0 : Int) ≤ (m : Int) := by omega
          obtain ⟨b1, o1, cap1, hr1, hr2⟩ := HR.out wr (below_chain (below_chain HB1.out HB2.out) HB.out) x h1
          have hrc := hr2 m h2
          obtain ⟨b5, o5, cap5, hr5, hr6⟩ := HR4.out wr (below_chain HB2.out HB.out) m h2
          have hrd := hr6 i hi
          have hcx := (HL.out.later HB.out) x h1
          have hcm := (HL.out.later HB.out) m h2
          rw [Nat.zero_add] at hcx hcm
          have hbx := lens_bound (e := edge zs) hi x
          have hbm := lens_bound (e := edge zs) hi m
          have hgl := perIn_le (c := onBack zs n i) (x := x) (perOut_le (c := onBack zs n i) (n := n) (stepD_le (zs := zs) hn8 hi) x) (stepD_le (zs := zs) hn8 hi x) m
          have hsd : stepD zs n i x m = lens (edge zs) n i x + 1 - lens (edge zs) n i m := rfl
          clear hr2 hr6
          cases hC : onBack zs n i x m with
          | true =>
            have HP : Hid (perIn (onBack zs n i) (stepD zs n i) x (m + 1) (perOut (onBack zs n i) (stepD zs n i) n x) = Int.gcd (perIn (onBack zs n i) (stepD zs n i) x m (perOut (onBack zs n i) (stepD zs n i) n x) : Nat) (stepD zs n i x m)) := by show _ = _; rw [perIn, if_pos hC]
            have hC2 : (0 ≤ lens (edge zs) n i x ∧ 0 < zs x m) ∧ war (edge zs) n m i = true := by simpa [onBack, edge, and_assoc] using hC
            obtain ⟨⟨hz, hz2⟩, hwt⟩ := hC2
            rw [hwt] at hrd
            rw [hsd] at HP
            clear hsd hC hwt
            generalize perIn (onBack zs n i) (stepD zs n i) x m (perOut (onBack zs n i) (stepD zs n i) n x) = G at *
            generalize lens (edge zs) n i x = y at *
            generalize lens (edge zs) n i m = y2 at *
            generalize zs x m = z at *
            go_wp2_with (go_quiet ((go_at_call 21; exact Calls.quiet_of (GCD_any _ _ _ (by omega) (by omega) (by omega) (by omega)))))
            exact ⟨⟨m + 1, h2, by go_num, by rw [HP.out], below_drewN HB.out nq⟩, by simp [intOf]; omega⟩
          | false =>
            have HP : Hid (perIn (onBack zs n i) (stepD zs n i) x (m + 1) (perOut (onBack zs n i) (stepD zs n i) n x) = perIn (onBack zs n i) (stepD zs n i) x m (perOut (onBack zs n i) (stepD zs n i) n x)) := by show _ = _; rw [perIn, hC]; rfl
            clear hsd
            by_cases hz : 0 ≤ lens (edge zs) n i x
            · by_cases hz2 : 0 < zs x m
              · have hwf : war (edge zs) n m i = false := by simpa [onBack, hz, edge, hz2] using hC
                rw [hwf] at hrd
                clear hC
                generalize lens (edge zs) n i x = y at *
                generalize zs x m = z at *
                go_wp2_with fail
                exact ⟨⟨m + 1, h2, by go_num, by rw [HP.out], HB⟩, by simp [intOf]; omega⟩
              · have hz3 : zs x m ≤ 0 := by omega
                clear hC hz2
                generalize lens (edge zs) n i x = y at *
                generalize zs x m = z at *
                go_wp2_with fail
                exact ⟨⟨m + 1, h2, by go_num, by rw [HP.out], HB⟩, by simp [intOf]; omega⟩
            · have hz3 : lens (edge zs) n i x < 0 := by omega
              clear hC hz
              generalize lens (edge zs) n i x = y at *
              go_wp2_with fail
              exact ⟨⟨m + 1, h2, by go_num, by rw [HP.out], HB⟩, by simp [intOf]; omega⟩
        · obtain rfl : n = m := by omega
          go_wp2_with fail
          exact ⟨⟨x + 1, h1, by go_num, rfl, HB⟩, by simp [intOf]; omega⟩
    · obtain rfl : n = x := by omega
      go_wp2_with fail
      go_ret2
      exact ⟨rfl, below_chain (below_chain HB1.out HB2.out) HB.out⟩
set_option maxRecDepth 100000 in
theorem Period_bad (a : Nat → Addr) (v : Value) (n : Nat) (i : Int) (vs : Nat → Value) (ns : Nat → Nat) (zs : Nat → Nat → Int) (w : World) (hE : Errs w a) (h : TabAt w v n vs ns zs) (hn : n ≤ 1000000) (hb : stateErr n ns zs i ≠ 0) :
    Calls Tryd.prog 8 #[v, .int .i64 i] w fun e w' => e = .returned (.tuple #[.int .i64 0, errV a (stateErr n ns zs i)]) ∧ w' = w := by
  have hv := checkState_any a v n vs ns zs i w hE h hn
  rw [errV_pos a hb] at hv ⊢
  go_enter Tryd.func8, Tryd.ntmps8
  go_wp2_with fail
  refine hv.mono ?_
  clear hv
  rintro e w1 ⟨rfl, hw1⟩
  go_wp2_with fail
  go_ret2
  exact ⟨rfl, rfl⟩
end Go.Proofs.YtndjnmnanldgeaaDoor

/- The document's period and the program's: one greatest common divisor. Plain functions. -/
namespace Go.Proofs.YtndjnmnanldgeaaDoor

/-- A length that was not found reads 0. -/
def up0 (x : Int) : Int := if x < 0 then 0 else x
theorem up0_of {x : Int} (h : 0 ≤ x) : up0 x = x := by unfold up0; rw [if_neg (by omega)]
theorem up0_no {x : Int} (h : x < 0) : up0 x = 0 := by unfold up0; rw [if_pos h]
theorem up0_ge (x : Int) : 0 ≤ up0 x := by unfold up0; split <;> omega
/-- The document's steps on a way back. -/
def docBack (e : Nat → Nat → Bool) (n i a b : Nat) : Bool := (decide (0 ≤ lens e n i a) && e a b) && (war e n b i || decide (b = i))
def docD (e : Nat → Nat → Bool) (n i a b : Nat) : Int := up0 (lens e n i a) + 1 - up0 (lens e n i b)
def docIn (c : Nat → Nat → Bool) (d : Nat → Nat → Int) (x : Nat) : Nat → Nat → Nat
  | 0, g => g
  | k + 1, g => if c x k = true then Int.gcd (d x k) (docIn c d x k g : Int) else docIn c d x k g
def docOut (c : Nat → Nat → Bool) (d : Nat → Nat → Int) (n : Nat) : Nat → Nat
  | 0 => 0
  | x + 1 => docIn c d x n (docOut c d n x)
theorem docBack_of {e : Nat → Nat → Bool} {n i a b : Nat} (hi : i < n) (hw : war e n i i = true) : docBack e n i a b = (decide (0 ≤ lens e n i a) && e a b && war e n b i) := by
  unfold docBack
  by_cases hb : b = i
  · subst hb; rw [hw]; simp
  · simp [hb]
theorem docD_of {e : Nat → Nat → Bool} {n i a b : Nat} (hi : i < n) (hb : b < n) (ha : 0 ≤ lens e n i a) (he : e a b = true) : docD e n i a b = lens e n i a + 1 - lens e n i b := by
  unfold docD
  rw [up0_of ha, up0_of (lens_on hi ha hb he)]
/-- Of one who does not come back no step lies on a way back. -/
theorem back_none {e : Nat → Nat → Bool} {n i a b : Nat} (hi : i < n) (hb : b < n) (hw : war e n i i = false) : (decide (0 ≤ lens e n i a) && e a b && war e n b i) = false := by
  by_cases h : 0 ≤ lens e n i a
  · cases he : e a b with
    | false => simp
    | true =>
      cases hw2 : war e n b i with
      | false => simp
      | true =>
        exfalso
        have h2 : Way e n b i := (war_iff hb hi).1 hw2
        have h3 : Way e n i b := by
          rcases lens_way hi h with rfl | h4
          · exact .one hi hb he
          · exact h4.last hb he
        have := (war_iff hi hi).2 (h3.trans h2)
        rw [hw] at this; cases this
  · simp [h]
end Go.Proofs.YtndjnmnanldgeaaDoor

/- The document's Contains and From. -/
namespace Go.Proofs.YtndjnmnanldgeaaDoor
open Go.RowKit

set_option maxRecDepth 100000 in
theorem Contains_any (v : Value) (l : List Nat) (x : Nat) (w : World) (h : StatesAt w v l) (_ : l.length ≤ 1000) :
    Calls Tryd.prog 16 #[v, .int .i64 x] w fun e w' => e = .returned (.bool (decide (x ∈ l))) ∧ w' = w := by
  obtain ⟨ad, cap, rfl⟩ := NumsAt.form h
  have HR : Hid (∀ i, i < l.length → ∃ b o, ad = some ⟨b, o, none⟩ ∧ w.cell? ⟨b, o + i, none⟩ = some (.int .i64 ((l.getD i 0 : Nat) : Int))) := fun i hi => by
    rcases h with ⟨_, _, _, h0⟩ | ⟨b, o, c, h1, _, h2⟩
    · omega
    · simp only [Value.slice.injEq, true_and] at h1
      exact ⟨b, o, h1.1, h2 i hi⟩
  clear h
  go_enter Tryd.func16, Tryd.ntmps16
  go_wp2_with fail
  go_loop [5] (fun t => ∃ k : Nat, k ≤ l.length ∧ t = .int .i64 k ∧ Hid (∀ i, i < k → l.getD i 0 ≠ x)) (fun t => l.length - (intOf t).toNat)
  case atStart => exact ⟨0, Nat.zero_le _, rfl, fun i hi => by omega⟩
  case round =>
    obtain ⟨k, hk, rfl, HN⟩ := hrel
    rcases Nat.lt_or_ge k l.length with h1 | h1
    · have hkI : (k : Int) < (l.length : Int) := by omega
      have hk0 : (0 : Int) ≤ (k : Int) := by omega
      obtain ⟨b, o, hadd, hc⟩ := HR.out k h1
      subst hadd
      by_cases he : l.getD k 0 = x
      · have hb : (((l.getD k 0 : Nat) : Int) == (x : Int)) = true := by rw [he]; simp
        have HV : Hid (decide (x ∈ l) = true) := decide_eq_true (by rw [← he, List.getD_eq_getElem?_getD, List.getElem?_eq_getElem h1]; simp)
        clear he
        generalize l.getD k 0 = y at *
        go_wp2_with fail
        go_ret
        exact ⟨ret_bool HV.out.symm, rfl⟩
      · have hb : (((l.getD k 0 : Nat) : Int) == (x : Int)) = false := by rw [beq_eq_false_iff_ne]; omega
        have HN' : Hid (∀ i, i < k + 1 → l.getD i 0 ≠ x) := fun i hi => by
          rcases Nat.lt_or_ge i k with h2 | h2
          · exact HN.out i h2
          · obtain rfl : i = k := by omega
            exact he
        clear he
        generalize l.getD k 0 = y at *
        go_wp2_with fail
        exact ⟨⟨k + 1, h1, by go_num, HN'⟩, by simp [intOf]; omega⟩
    · obtain rfl : k = l.length := by omega
      have HV : Hid (decide (x ∈ l) = false) := decide_eq_false (fun hm => by
        obtain ⟨i, hi, he⟩ := List.mem_iff_getElem.1 hm
        exact HN.out i hi (by rw [List.getD_eq_getElem?_getD, List.getElem?_eq_getElem hi]; exact he))
      go_wp2_with fail
      go_ret
      exact ⟨ret_bool HV.out.symm, rfl⟩

theorem firstL_le (e : Nat → Nat → Bool) (i : Nat) : ∀ n, (firstL e i n).length ≤ n
  | 0 => by simp [firstL]
  | n + 1 => by
    have := firstL_le e i n
    rw [firstL]; split
    · simp; omega
    · omega

set_option maxRecDepth 100000 in
set_option maxHeartbeats 4000000 in
theorem From_any (v : Value) (n i : Nat) (wall : Int) (zs : Nat → Nat → Int) (w : World) (h : RowsAt w v n zs) (hn : n ≤ 8) (hi : i < n) :
    Calls Tryd.prog 15 #[v, .int .i64 i, .int .i64 wall] w fun e w' => ∃ r l, e = .returned r ∧ StatesAt w' r l ∧ l.Nodup ∧ (∀ k, k ∈ l ↔ Found (edge zs) n wall i k) ∧ l.length ≤ n ∧ Below w.heap.size w w' := by
  obtain ⟨i0, hii, hz0, hz1, hz2⟩ := info_parts Tryd.infoInt
  have HINF : Hid (Tryd.prog.info? 3 = some i0 ∧ i0.zero = some (.int .i64 0) ∧ i0.size = 1 ∧ i0.bytes = 8) := ⟨hii, hz0, hz1, hz2⟩
  clear hii hz0 hz1 hz2
  obtain ⟨cb, co, cc, hcv, hcr⟩ := h
  subst hcv
  have HC : Hid (∀ W, Below w.heap.size w W → ∀ i, i < n → ∃ b1 o1 cap1, W.cell? ⟨cb, co + i, none⟩ = some (.slice (some ⟨b1, o1, none⟩) n cap1) ∧ ∀ k, k < n → W.cell? ⟨b1, o1 + k, none⟩ = some (.int .i64 (zs i k))) := fun W hb i hi => by
    obtain ⟨b1, o1, c1, h1, h2⟩ := hcr i hi
    exact ⟨b1, o1, c1, by rw [hb.cell (cell_lt h1)]; exact h1, fun k hk => by rw [hb.cell (cell_lt (h2 k hk))]; exact h2 k hk⟩
  clear hcr
  have hi0 : (0 : Int) ≤ (i : Int) := by omega
  have hiI : (i : Int) < (n : Int) := by omega
  go_enter Tryd.func15, Tryd.ntmps15
  go_wp2_with fail
  go_loopw [7, 8] (fun u t wr => ∃ k : Nat, k ≤ n ∧ t = .int .i64 k ∧ Hid (wr.ownsRow w.heap.size 3 1 u (firstL (edge zs) i k).length (cellL (natL (firstL (edge zs) i k)))) ∧ Hid (Below w.heap.size w wr)) (fun _ t _ => n - (intOf t).toNat)
  case atStart => exact ⟨0, Nat.zero_le _, rfl, ⟨rfl, Or.inl ⟨rfl, rfl⟩⟩, Below.refl _ _⟩
  case round =>
    obtain ⟨k, hk, rfl, HO, HB⟩ := hrel
    rcases Nat.lt_or_ge k n with h1 | h1
    · have hkI : (k : Int) < (n : Int) := by omega
      have hk0 : (0 : Int) ≤ (k : Int) := by omega
      obtain ⟨b1, o1, cap1, y1, hr1⟩ := HC.out wr HB.out i hi
      have y2 := hr1 k h1
      have hzB := HB.out.size
      have hll := firstL_le (edge zs) i k
      clear hr1
      by_cases hp : 0 < zs i k
      · have HF : Hid (firstL (edge zs) i (k + 1) = firstL (edge zs) i k ++ [k]) := by show _ = _; rw [firstL, if_pos (by unfold edge; exact decide_eq_true hp)]
        generalize zs i k = z at *
        go_wp2_with (at_builtin; go_must (refine wpList_append_lies _ rfl _ _ _ rfl w.heap.size 3 i0 _ 1 8 Tryd.underlying37 HINF.out.1 HINF.out.2.1 HINF.out.2.2.1 HINF.out.2.2.2 rfl (by omega) u7 _ _ rfl (HO.out.alloc _) ⟨wr.heap.size, 0, none⟩ 1 1 [.int .i64 (k : Int)] rfl rfl (one_new _ _ _) (by simp [Value.oneCell']) (by omega) (by unfold maxLen; omega) (by omega) (by simp; omega) _ rfl ?_; intro g' cap2 w3 hown3 hgrow3 hat3 hlt3; have HO3 := Hid.mk' hown3; have HG3 := Hid.mk' hgrow3; clear hown3 hgrow3 hat3))
        refine ⟨⟨k + 1, h1, by go_num, ?_, below_push HB.out HO.out HG3.out⟩, by simp [intOf]; omega⟩
        rw [HF.out, natL_push]
        simpa using HO3
      · have HF : Hid (firstL (edge zs) i (k + 1) = firstL (edge zs) i k) := by show _ = _; rw [firstL, if_neg (by unfold edge; simp; omega)]
        generalize zs i k = z at *
        go_wp2_with fail
        exact ⟨⟨k + 1, h1, by go_num, by rw [HF.out]; exact HO, HB⟩, by simp [intOf]; omega⟩
    · obtain rfl : n = k := by omega
      have HLK := Hid.mk' (looks_start (edge zs) n wall i)
      have HO1 : Hid (wr.ownsRow w.heap.size 3 1 u7 (firstL (edge zs) i n).length (cellL (natL (firstL (edge zs) i n)))) := HO
      clear HO
      go_wp2_with fail
      obtain ⟨Wr, hWr⟩ : ∃ Wr, Wr = wr := ⟨_, rfl⟩
      rw [← hWr] at HO1 HB ⊢
      clear hWr
      go_loopw [7, 9] (fun u t wr => ∃ (s : Nat) (l : List Nat), s ≤ l.length ∧ t = .int .i64 s ∧ Hid (Looks (edge zs) n wall i s l) ∧ Hid (wr.ownsRow w.heap.size 3 1 u l.length (cellL (natL l))) ∧ Hid (Below w.heap.size w wr)) (fun _ t _ => n - (intOf t).toNat)
      case atStart => exact ⟨0, _, Nat.zero_le _, rfl, HLK, HO1, HB⟩
      case round =>
        clear HLK HO1 HB
        obtain ⟨s, l, hs, rfl, HLK, HO, HB⟩ := hrel
        have hln := HLK.out.len
        obtain ⟨ua, uc, hue, _⟩ := row_shape HO.out
        subst hue
        rcases Nat.lt_or_ge s l.length with h2 | h2
        · have hsI : (s : Int) < (l.length : Int) := by omega
          have hs0 : (0 : Int) ≤ (s : Int) := by omega
          obtain ⟨gb, go, hgo, hcell⟩ : ∃ gb go, ua = some ⟨gb, go, none⟩ ∧ ∀ j, j < l.length → wr.cell? ⟨gb, go + j, none⟩ = some (.int .i64 ((l.getD j 0 : Nat) : Int)) := by
            rcases statesAt_row HO.out with ⟨_, _, _, h0⟩ | ⟨b, o, c, h3, _, h4⟩
            · omega
            · simp only [Value.slice.injEq, true_and] at h3
              exact ⟨b, o, h3.1, h4⟩
          subst hgo
          have y0 := hcell s h2
          have hxl : l.getD s 0 = l[s] := by rw [List.getD_eq_getElem?_getD, List.getElem?_eq_getElem h2]; rfl
          have hxn : l.getD s 0 < n := by rw [hxl]; exact (HLK.out.ok _ (List.getElem_mem h2)).lt
          obtain ⟨x, hx⟩ : ∃ x, x = l.getD s 0 := ⟨_, rfl⟩
          have HX : Hid (x = l[s]) := by show _ = _; rw [hx, hxl]
          have HXD := Hid.mk' hx
          rw [← hx] at y0 hxn
          clear hx hxl hcell
          have hx0 : (0 : Int) ≤ (x : Int) := by omega
          have hxI : (x : Int) < (n : Int) := by omega
          by_cases hwl : (x : Int) = wall
          · have hb : ((x : Int) == wall) = true := by rw [hwl]; simp
            have HN : Hid (Looks (edge zs) n wall i (s + 1) l) := HLK.out.next h2 (fun hne => absurd (by rw [← HX.out]; exact hwl) hne)
            clear hwl
            go_wp2_with fail
            exact ⟨⟨s + 1, l, h2, by go_num, HN, HO, HB⟩, by simp [intOf]; omega⟩
          · have hb : ((x : Int) == wall) = false := by rw [beq_eq_false_iff_ne]; exact hwl
            have HWL := Hid.mk' hwl
            clear hwl
            go_wp2_with fail
            obtain ⟨Wr, hWr⟩ : ∃ Wr, Wr = wr := ⟨_, rfl⟩
            have HLS : Hid (Looks (edge zs) n wall i s l ∧ s < l.length ∧ l.getD s 0 = x ∧ ∀ k', k' < 0 → edge zs x k' = true → k' ∈ l) := ⟨HLK.out, h2, HXD.out.symm, fun k' h' => by omega⟩
            rw [← hWr] at HO HB ⊢
            clear hWr y0 HLK HX HXD
            go_loopw [7, 10] (fun u t wr => ∃ (k : Nat) (l : List Nat), k ≤ n ∧ t = .int .i64 k ∧ Hid (Looks (edge zs) n wall i s l ∧ s < l.length ∧ l.getD s 0 = x ∧ ∀ k', k' < k → edge zs x k' = true → k' ∈ l) ∧ Hid (wr.ownsRow w.heap.size 3 1 u l.length (cellL (natL l))) ∧ Hid (Below w.heap.size w wr)) (fun _ t _ => n - (intOf t).toNat)
            case atStart => exact ⟨0, l, Nat.zero_le _, rfl, HLS, HO, HB⟩
            case round =>
              clear HLS HO HB
              obtain ⟨k, l, hk, rfl, HLS, HO, HB⟩ := hrel
              have hln := HLS.out.1.len
              have hsl := HLS.out.2.1
              obtain ⟨ua, uc, hue, _⟩ := row_shape HO.out
              subst hue
              rcases Nat.lt_or_ge k n with h3 | h3
              · have hkI : (k : Int) < (n : Int) := by omega
                have hk0 : (0 : Int) ≤ (k : Int) := by omega
                have hsI : (s : Int) < (l.length : Int) := by omega
                have hst := statesAt_row HO.out
                have hcon := Contains_any _ l k wr hst (by omega)
                obtain ⟨gb, go, hgo, y0⟩ : ∃ gb go, ua = some ⟨gb, go, none⟩ ∧ wr.cell? ⟨gb, go + s, none⟩ = some (.int .i64 (x : Int)) := by
                  rcases hst with ⟨_, _, _, h0⟩ | ⟨b, o, c, h5, _, h4⟩
                  · omega
                  · simp only [Value.slice.injEq, true_and] at h5
                    exact ⟨b, o, h5.1, by have := h4 s hsl; rw [this]; show some (Value.int .i64 ((l.getD s 0 : Nat) : Int)) = _; rw [HLS.out.2.2.1]⟩
                subst hgo
                obtain ⟨b1, o1, cap1, y1, hr1⟩ := HC.out wr HB.out x hxn
                have y2 := hr1 k h3
                have hzB := HB.out.size
                clear hr1 hst
                by_cases hp : 0 < zs x k
                · have hedge : edge zs x k = true := by unfold edge; exact decide_eq_true hp
                  by_cases hin : k ∈ l
                  · rw [decide_eq_true hin] at hcon
                    have HL' : Hid (Looks (edge zs) n wall i s l ∧ s < l.length ∧ l.getD s 0 = x ∧ ∀ k', k' < k + 1 → edge zs x k' = true → k' ∈ l) := ⟨HLS.out.1, HLS.out.2.1, HLS.out.2.2.1, fun k' h' he => by
                      rcases Nat.lt_or_ge k' k with h6 | h6
                      · exact HLS.out.2.2.2 k' h6 he
                      · obtain rfl : k' = k := by omega
                        exact hin⟩
                    clear hin hedge
                    generalize zs x k = z at *
                    go_wp2_with fail
                    refine hcon.mono ?_
                    clear hcon
                    rintro e w3 ⟨rfl, hw3⟩
                    go_wp2_with fail
                    exact ⟨⟨k + 1, l, h3, by go_num, HL', HO, HB⟩, by simp [intOf]; omega⟩
                  · rw [decide_eq_false hin] at hcon
                    have hfk : Found (edge zs) n wall i k := by
                      have hmem : x ∈ l := by rw [← HLS.out.2.2.1, List.getD_eq_getElem?_getD, List.getElem?_eq_getElem hsl]; simp
                      exact .more (HLS.out.1.ok x hmem) HWL.out h3 hedge
                    have HL' : Hid (Looks (edge zs) n wall i s (l ++ [k]) ∧ s < (l ++ [k]).length ∧ (l ++ [k]).getD s 0 = x ∧ ∀ k', k' < k + 1 → edge zs x k' = true → k' ∈ l ++ [k]) := ⟨HLS.out.1.push (by omega) hin hfk, by simp; omega, by rw [← HLS.out.2.2.1, List.getD_eq_getElem?_getD, List.getD_eq_getElem?_getD, List.getElem?_append_left hsl], fun k' h' he => by
                      rcases Nat.lt_or_ge k' k with h6 | h6
                      · exact List.mem_append_left _ (HLS.out.2.2.2 k' h6 he)
                      · obtain rfl : k' = k := by omega
                        simp⟩
                    clear hin hedge hfk
                    generalize zs x k = z at *
                    go_wp2_with fail
                    refine hcon.mono ?_
                    clear hcon
                    rintro e w3 ⟨rfl, hw3⟩
                    go_wp2_with (at_builtin; go_must (refine wpList_append_lies _ rfl _ _ _ rfl w.heap.size 3 i0 _ 1 8 Tryd.underlying37 HINF.out.1 HINF.out.2.1 HINF.out.2.2.1 HINF.out.2.2.2 rfl (by omega) _ _ _ rfl (HO.out.alloc _) ⟨wr.heap.size, 0, none⟩ 1 1 [.int .i64 (k : Int)] rfl rfl (one_new _ _ _) (by simp [Value.oneCell']) (by omega) (by unfold maxLen; omega) (by omega) (by simp; omega) _ rfl ?_; intro g' cap2 w4 hown3 hgrow3 hat3 hlt3; have HO3 := Hid.mk' hown3; have HG3 := Hid.mk' hgrow3; clear hown3 hgrow3 hat3))
                    refine ⟨⟨k + 1, l ++ [k], h3, by go_num, HL', ?_, below_push HB.out HO.out HG3.out⟩, by simp [intOf]; omega⟩
                    rw [natL_push]
                    simpa using HO3
                · have HL' : Hid (Looks (edge zs) n wall i s l ∧ s < l.length ∧ l.getD s 0 = x ∧ ∀ k', k' < k + 1 → edge zs x k' = true → k' ∈ l) := ⟨HLS.out.1, HLS.out.2.1, HLS.out.2.2.1, fun k' h' he => by
                    rcases Nat.lt_or_ge k' k with h6 | h6
                    · exact HLS.out.2.2.2 k' h6 he
                    · obtain rfl : k' = k := by omega
                      unfold edge at he; simp at he; omega⟩
                  generalize decide (k ∈ l) = q at *
                  generalize zs x k = z at *
                  go_wp2_with fail
                  refine hcon.mono ?_
                  clear hcon
                  rintro e w3 ⟨rfl, hw3⟩
                  go_wp2_with fail
                  exact ⟨⟨k + 1, l, h3, by go_num, HL', HO, HB⟩, by simp [intOf]; omega⟩
              · obtain rfl : n = k := by omega
                have HN : Hid (Looks (edge zs) n wall i (s + 1) l) := HLS.out.1.next hsl (fun _ k' hk' he => HLS.out.2.2.2 k' hk' (by
                  have e1 : l[s] = x := by rw [← HLS.out.2.2.1, List.getD_eq_getElem?_getD, List.getElem?_eq_getElem hsl]; rfl
                  rw [← e1]; exact he))
                go_wp2_with fail
                exact ⟨⟨s + 1, l, hsl, by go_num, HN, HO, HB⟩, by simp [intOf]; omega⟩
        · obtain rfl : s = l.length := by omega
          go_wp2_with fail
          go_ret
          exact ⟨_, l, rfl, statesAt_row HO.out, HLK.out.nd, HLK.out.done (Nat.le_refl _), hln, HB.out⟩
end Go.Proofs.YtndjnmnanldgeaaDoor

/- The document's ClassesOf and ClosedOf. -/
namespace Go.Proofs.YtndjnmnanldgeaaDoor
open Go.RowKit

theorem mem_war {zs : Nat → Nat → Int} {n i k : Nat} {l : List Nat} (hi : i < n) (hk : k < n) (h : ∀ k, k ∈ l ↔ Found (edge zs) n (-1) i k) : decide (k ∈ l) = war (edge zs) n i k := by
  have h1 : k ∈ l ↔ war (edge zs) n i k = true := (h k).trans ((found_iff hi).trans (war_iff hi hk).symm)
  cases hb : war (edge zs) n i k with
  | true => exact decide_eq_true (h1.2 hb)
  | false => exact decide_eq_false (fun hm => by rw [h1.1 hm] at hb; cases hb)
theorem leastTo_lt (tt : Nat → Nat → Bool) (i : Nat) : ∀ k d, leastTo tt i k d ≤ max k d
  | 0, d => by simp [leastTo]
  | k + 1, d => by
    rw [leastTo]; split
    · have := leastTo_lt tt i k k; omega
    · have := leastTo_lt tt i k d; omega

/-- Whose class cannot be left, told by the least states. -/
theorem shut_stays {tt : Nat → Nat → Bool} {n i : Nat} (htr : ∀ a b c, a < n → b < n → c < n → tt a b = true → tt b c = true → tt a c = true) (hi : i < n) (hl : least tt i = i) : staysB tt i n = true ↔ ∀ k, k < n → tt i k = true → least tt k = i := by
  rw [stays_iff]
  constructor
  · intro h k hk hik
    have hki := h k hk hik
    rcases Nat.lt_trichotomy i k with h1 | h1 | h1
    · refine least_first h1 hki hik (fun j hj hh => ?_)
      have h2 : tt i j = true := htr i k j hi hk (by omega) hik hh.1
      have h3 : tt j i = true := htr j k i (by omega) hk hi hh.2 hki
      have hno : least tt i ≠ i := by
        unfold least
        rcases leastTo_spec tt i i i with ⟨_, h4⟩ | ⟨h4, _⟩
        · exact absurd ⟨h2, h3⟩ (h4 j hj)
        · omega
      exact hno hl
    · rw [← h1]; exact hl
    · exfalso
      have hno : least tt i ≠ i := by
        unfold least
        rcases leastTo_spec tt i i i with ⟨_, h4⟩ | ⟨h4, _⟩
        · exact absurd ⟨hik, hki⟩ (h4 k h1)
        · omega
      exact hno hl
  · intro h k hk hik
    have h1 := h k hk hik
    by_cases hki : k = i
    · rw [hki] at hik ⊢; exact hik
    · have := @least_own tt k (by omega)
      rw [h1] at this
      exact this.1
theorem war_closed (e : Nat → Nat → Bool) (n : Nat) : ∀ a b c, a < n → b < n → c < n → war e n a b = true → war e n b c = true → war e n a c = true := fun _ _ _ _ hb _ h1 h2 => war_trans hb h1 h2

end Go.Proofs.YtndjnmnanldgeaaDoor
