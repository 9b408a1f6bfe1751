/- The law's copies of tables; the program's list of a table's weights. -/
import Derived.Test.YthomgmhmbalnbaaDoorTabErr
import Derived.Deep.Onto
import Derived.Test.YthomgmhmbalnbaaDoorCodedV
import Derived.Test.YthomgmhmbalnbaaDoorHtVal
import Derived.Test.YthomgmhmbalnbaaDoorWeights
import Derived.Test.YthomgmhmbalnbaaDoorValidWalk
import Derived.Test.YthomgmhmbalnbaaDoorNatTold
import Derived.Test.YthomgmhmbalnbaaDoorHtGain
import Derived.Test.YthomgmhmbalnbaaDoorHtStep
import Derived.Test.YthomgmhmbalnbaaDoorHtStart
namespace Go.Proofs.YthomgmhmbalnbaaDoor
open Go.RowKit

theorem Tryd.infoInts : (Tryd.prog.info? 39).map (fun i => (i.zero, i.size, i.bytes)) = some (some (.slice none 0 0), 1, 24) := by kernel_rfl
def rowV (vs : Nat → Value) (k : Nat) : List Value := (List.range k).map vs
theorem rowV_length (vs : Nat → Value) (k : Nat) : (rowV vs k).length = k := by simp [rowV]
theorem rowV_push (vs : Nat → Value) (k : Nat) (v : Value) : rowV vs k ++ [v] = rowV (fun i => if i = k then v else vs i) (k + 1) := by
  unfold rowV
  rw [List.range_succ, List.map_append]
  congr 1
  · refine List.map_congr_left (fun i hi => ?_)
    have := List.mem_range.1 hi
    rw [if_neg (by omega)]
  · simp
theorem tabAt_of_row {w : World} {base : Nat} {t : TypeId} {v : Value} {R : Nat} {vs : Nat → Value} {ns : Nat → Nat} {zs : Nat → Nat → Int} (h : w.ownsRow base t 1 v R (rowV vs R)) (hn : ∀ i, i < R → NumsAt w (vs i) (ns i) (zs i)) : TabAt w v R vs ns zs := by
  rcases h.2 with ⟨hv, h0⟩ | ⟨g, cap, cur, hv, _, hh, _, _, hs, ht⟩
  · exact Or.inl ⟨none, 0, hv, h0⟩
  · rcases Nat.eq_zero_or_pos R with h0 | h0
    · exact Or.inl ⟨_, _, by rw [hv, h0], h0⟩
    · refine Or.inr ⟨g, 0, cap, hv, h0, fun i hi => ⟨?_, hn i hi⟩⟩
      have h1 : (rowV vs R)[i]? = some (vs i) := by simp [rowV, hi]
      rw [← h1, ← ht, List.getElem?_take_of_lt (by omega)]
      simp [World.cell?, hh]
theorem own_past {w w' : World} {base : Nat} {t : TypeId} {sz : Nat} {v : Value} {n : Nat} {xs : List Value} (h : w.ownsRow base t sz v n xs) (hb : Below w.heap.size w w') : w'.ownsRow base t sz v n xs := by
  obtain ⟨hl, hr⟩ := h
  refine ⟨hl, ?_⟩
  rcases hr with hr | ⟨g, cap, cur, hv, hb1, hh, rest⟩
  · exact Or.inl hr
  · exact Or.inr ⟨g, cap, cur, hv, hb1, by rw [hb.block g (heap_lt hh)]; exact hh, rest⟩
/-- A row of another kind beside the one that is grown. -/
theorem own_beside {w w' : World} {b1 b2 : Nat} {t1 t2 : TypeId} {v u : Value} {n m s1 s2 : Nat} {xs ys : List Value} (h : w.ownsRow b1 t1 s1 v n xs) (k : w.ownsRow b2 t2 s2 u m ys) (ht : t1 ≠ t2) (hg : w.grownBy w' u.ownBlock) : w'.ownsRow b1 t1 s1 v n xs := by
  obtain ⟨hl, hr⟩ := h
  refine ⟨hl, ?_⟩
  rcases hr with hr | ⟨g, cap, cur, hv, hb1, hh, rest⟩
  · exact Or.inl hr
  · refine Or.inr ⟨g, cap, cur, hv, hb1, ?_, rest⟩
    rw [hg.block g (heap_lt hh) (fun e => ?_)]
    · exact hh
    · rcases k.2 with ⟨rfl, _⟩ | ⟨g', cap', cur', rfl, _, hh', _⟩
      · cases e
      · obtain rfl : g = g' := by simpa [Value.ownBlock] using e
        rw [hh] at hh'
        simp at hh'
        exact ht hh'.2
set_option maxRecDepth 100000 in
set_option maxHeartbeats 2000000 in
theorem lists_own (v : Value) (R : Nat) (vs : Nat → Value) (ns : Nat → Nat) (zs : Nat → Nat → Int) (w : World) (h : TabAt w v R vs ns zs) (hR : R ≤ 70) (hs : sumT ns R ≤ 600) :
    Calls Tryd.prog 29 #[v] w fun e w' => ∃ v' vs', e = .returned v' ∧ w'.ownsRow w.heap.size 39 1 v' R (rowV vs' R) ∧ (∀ i, i < R → w'.ownsRow w.heap.size 3 1 (vs' i) (ns i) (numCells (zs i) (ns i))) ∧ Below w.heap.size w w' := by
  rcases h with ⟨ad, cap, rfl, rfl⟩ | ⟨b, o, cap, rfl, h0, hr⟩
  · go_enter Tryd.func29, Tryd.ntmps29
    go_wp2_with fail
    refine wp_loop_rounds 1 ?_
    rw [rounds_succ]
    go_wp2_with fail
    go_ret
    exact ⟨_, vs, rfl, ⟨rfl, Or.inl ⟨rfl, rfl⟩⟩, (fun i hi => by omega), Below.refl _ _⟩
  · obtain ⟨i0, hi, hz0, hz1, hz2⟩ := info_parts Tryd.infoInts
    have HINF : Hid (Tryd.prog.info? 39 = some i0 ∧ i0.zero = some (.slice none 0 0) ∧ i0.size = 1 ∧ i0.bytes = 24) := ⟨hi, hz0, hz1, hz2⟩
    have HR := Hid.mk' hr
    have HN : Hid (∀ i, i < R → ns i ≤ 600) := fun i hi => by have h2 : sumT ns i + ns i ≤ sumT ns R := sumT_mono ns hi; omega
    clear hi hz0 hz1 hz2 hr
    go_enter Tryd.func29, Tryd.ntmps29
    go_wp2_with fail
    go_loopw [3, 4] (fun u i wr => ∃ (k : Nat) (us : Nat → Value), k ≤ R ∧ i = .int .i64 k ∧ Hid (wr.ownsRow w.heap.size 39 1 u k (rowV us k)) ∧ Hid (∀ i, i < k → wr.ownsRow w.heap.size 3 1 (us i) (ns i) (numCells (zs i) (ns i))) ∧ Hid (Below w.heap.size w wr)) (fun _ i _ => R - (intOf i).toNat)
    case atStart => exact ⟨0, vs, Nat.zero_le _, rfl, ⟨rfl, Or.inl ⟨rfl, rfl⟩⟩, (fun i hi => by omega), Below.refl _ _⟩
    case round =>
      obtain ⟨k, us, hk, rfl, HO, HNA, HB⟩ := hrel
      rcases Nat.lt_or_ge k R with h1 | h1
      · have hc := (HR.out k h1).1
        have hc' : wr.cell? ⟨b, o + k, none⟩ = some (vs k) := by rw [HB.out.cell (cell_lt hc)]; exact hc
        have hnums := (HR.out k h1).2.later HB.out
        have hints := ints_row (vs k) (ns k) (zs k) wr hnums (by have := HN.out k h1; omega)
        obtain ⟨ad1, cap1, hv1⟩ := hnums.form
        rw [hv1] at hc' hints
        have hkn : (k : Int) < (R : Int) := by omega
        clear hc hnums hv1
        go_wp2_with fail
        refine hints.mono ?_
        clear hints hc'
        rintro e w4 ⟨v4, rfl, hv4, hb4⟩
        have HO4 := Hid.mk' (own_past HO.out hb4)
        have HB4 := Hid.mk' (HB.out.trans (hb4.mono HB.out.size))
        have HA4 : Hid (∀ i, i < k → w4.ownsRow w.heap.size 3 1 (us i) (ns i) (numCells (zs i) (ns i))) := fun i hi => own_past (HNA.out i hi) hb4
        have HV4 : Hid (w4.ownsRow w.heap.size 3 1 v4 (ns k) (numCells (zs k) (ns k))) := hv4.mono HB.out.size
        obtain ⟨ad4, cap4, rfl, _⟩ := row_shape hv4
        have hz4 := HB4.out.size
        clear hv4 hb4
        go_wp2_with (at_builtin; go_must (refine wpList_append_lies _ rfl _ _ _ rfl w.heap.size 39 i0 _ 1 24 Tryd.underlying22 HINF.out.1 HINF.out.2.1 HINF.out.2.2.1 HINF.out.2.2.2 rfl (by omega) u3 _ _ rfl (HO4.out.alloc _) ⟨w4.heap.size, 0, none⟩ 1 1 [.slice ad4 (ns k) cap4] rfl rfl (one_new _ _ _) (by simp [Value.oneCell']) (by omega) (by unfold maxLen; omega) (by omega) (by simp; omega) _ rfl ?_; intro g' cap2 w5 hown5 hgrow5 hat5 hlt5; have HO5 := Hid.mk' hown5; have HG5 := Hid.mk' hgrow5; clear hown5 hgrow5 hat5))
        refine ⟨⟨k + 1, fun i => if i = k then .slice ad4 (ns k) cap4 else us i, h1, by go_num, ?_, fun i hi => ?_, below_push HB4.out HO4.out HG5.out⟩, by simp [intOf]; omega⟩
        · rw [← rowV_push]
          exact HO5
        · show World.ownsRow _ _ _ _ _ _ _
          dsimp only
          by_cases hik : i = k
          · subst hik
            rw [if_pos rfl]
            exact own_beside (own_past HV4.out ((Below.refl _ _).alloc (Nat.le_refl _) _)) (HO4.out.alloc _) (by decide) HG5.out
          · rw [if_neg hik]
            exact own_beside (own_past (HA4.out i (by omega)) ((Below.refl _ _).alloc (Nat.le_refl _) _)) (HO4.out.alloc _) (by decide) HG5.out
      · obtain rfl : k = R := by omega
        go_wp2_with fail
        go_ret
        exact ⟨_, us, rfl, HO.out, HNA.out, HB.out⟩
theorem lists_any (v : Value) (R : Nat) (vs : Nat → Value) (ns : Nat → Nat) (zs : Nat → Nat → Int) (w : World) (h : TabAt w v R vs ns zs) (hR : R ≤ 70) (hs : sumT ns R ≤ 600) :
    Calls Tryd.prog 29 #[v] w fun e w' => ∃ v' vs', e = .returned v' ∧ TabAt w' v' R vs' ns zs ∧ Below w.heap.size w w' := by
  refine (lists_own v R vs ns zs w h hR hs).mono ?_
  rintro e w' ⟨v', us, rfl, h1, h2, h3⟩
  exact ⟨_, us, rfl, tabAt_of_row h1 (fun i hi => numsAt_own (h2 i hi)), h3⟩

end Go.Proofs.YthomgmhmbalnbaaDoor

/- Right chains: the document's and the program's. -/
namespace Go.Proofs.YthomgmhmbalnbaaDoor
open Go.RowKit

/-- A row among the first k that is of another length, below 0 or nothing; one that is too great. -/
def shapeB (n : Nat) (ns : Nat → Nat) (zs : Nat → Nat → Int) : Nat → Bool
  | 0 => false
  | k + 1 => shapeB n ns zs k || decide (ns k ≠ n ∨ listErr (zs k) (ns k) = 3)
def boundB (ns : Nat → Nat) (zs : Nat → Nat → Int) : Nat → Bool
  | 0 => false
  | k + 1 => boundB ns zs k || decide (listErr (zs k) (ns k) ≠ 0)
def chainErr (n : Nat) (ns : Nat → Nat) (zs : Nat → Nat → Int) : Nat := if 8 < n then 2 else if n = 0 then 3 else if shapeB n ns zs n = true then 3 else if boundB ns zs n = true then 2 else 0
theorem shapeB_at {n : Nat} {ns : Nat → Nat} {zs : Nat → Nat → Int} {k : Nat} : ∀ {m : Nat}, k < m → (ns k ≠ n ∨ listErr (zs k) (ns k) = 3) → shapeB n ns zs m = true
  | 0, h, _ => by omega
  | m + 1, h, hb => by
    rw [shapeB]
    rcases Nat.lt_or_ge k m with h1 | h1
    · rw [shapeB_at h1 hb]; rfl
    · obtain rfl : k = m := by omega
      rw [decide_eq_true hb]; simp
theorem shapeB_none {n : Nat} {ns : Nat → Nat} {zs : Nat → Nat → Int} : ∀ {m : Nat}, shapeB n ns zs m = false → ∀ k, k < m → ns k = n ∧ listErr (zs k) (ns k) ≠ 3
  | 0, _, k, h => by omega
  | m + 1, h, k, hk => by
    rw [shapeB, Bool.or_eq_false_iff] at h
    rcases Nat.lt_or_ge k m with h1 | h1
    · exact shapeB_none h.1 k h1
    · obtain rfl : k = m := by omega
      have := of_decide_eq_false h.2
      exact ⟨by omega, by omega⟩
theorem boundB_none {ns : Nat → Nat} {zs : Nat → Nat → Int} : ∀ {m : Nat}, boundB ns zs m = false → ∀ k, k < m → listErr (zs k) (ns k) = 0
  | 0, _, k, h => by omega
  | m + 1, h, k, hk => by
    rw [boundB, Bool.or_eq_false_iff] at h
    rcases Nat.lt_or_ge k m with h1 | h1
    · exact boundB_none h.1 k h1
    · obtain rfl : k = m := by omega
      have := of_decide_eq_false h.2
      omega
theorem listErr_cases (z : Nat → Int) (n : Nat) : listErr z n = 0 ∨ listErr z n = 2 ∨ listErr z n = 3 := by
  unfold listErr
  split
  · exact Or.inr (Or.inr rfl)
  · split
    · exact Or.inr (Or.inl rfl)
    · exact Or.inl rfl
theorem chainErr_le (n : Nat) (ns : Nat → Nat) (zs : Nat → Nat → Int) : chainErr n ns zs ≤ 3 := by
  unfold chainErr; split; omega; split; omega; split; omega; split <;> omega
/-- What a right chain is. -/
theorem chainErr_ok {n : Nat} {ns : Nat → Nat} {zs : Nat → Nat → Int} (h : chainErr n ns zs = 0) : 0 < n ∧ n ≤ 8 ∧ (∀ i, i < n → ns i = n) ∧ ∀ i, i < n → OkW (zs i) n := by
  unfold chainErr at h
  by_cases h1 : 8 < n
  · rw [if_pos h1] at h; cases h
  rw [if_neg h1] at h
  by_cases h2 : n = 0
  · rw [if_pos h2] at h; cases h
  rw [if_neg h2] at h
  cases h3 : shapeB n ns zs n with
  | true => rw [h3, if_pos rfl] at h; cases h
  | false =>
    rw [h3, if_neg (by simp)] at h
    cases h4 : boundB ns zs n with
    | true => rw [h4, if_pos rfl] at h; cases h
    | false =>
      refine ⟨by omega, by omega, fun i hi => (shapeB_none h3 i hi).1, fun i hi => ?_⟩
      have := listErr_ok (boundB_none h4 i hi)
      rw [(shapeB_none h3 i hi).1] at this
      exact this

set_option maxRecDepth 100000 in
set_option maxHeartbeats 2000000 in
theorem ChainError_any (v : Value) (n : Nat) (vs : Nat → Value) (ns : Nat → Nat) (zs : Nat → Nat → Int) (w : World) (h : TabAt w v n vs ns zs) (hn : n ≤ 1000000) (hns : ∀ i, i < n → ns i ≤ 1000000) :
    Calls Tryd.prog 20 #[v] w fun e w' => e = .returned (.int .i64 (chainErr n ns zs : Nat)) ∧ w' = w := by
  obtain ⟨ad, cap, rfl⟩ := h.form
  have HT := Hid.mk' h
  clear h
  by_cases h8 : 8 < n
  · have hI : (8 : Int) < (n : Int) := by omega
    have he : chainErr n ns zs = 2 := by unfold chainErr; rw [if_pos h8]
    rw [he]
    go_enter Tryd.func20, Tryd.ntmps20
    go_wp2_with fail
    go_ret
    exact ⟨rfl, rfl⟩
  have hI : ¬ (8 : Int) < (n : Int) := by omega
  rcases Nat.eq_zero_or_pos n with h0 | h0
  · subst h0
    go_enter Tryd.func20, Tryd.ntmps20
    go_wp2_with fail
    go_ret
    exact ⟨rfl, rfl⟩
  have hz : ((n : Int) == 0) = false := by rw [beq_eq_false_iff_ne]; omega
  obtain ⟨b, o, rfl, hrows⟩ : ∃ b o, ad = some ⟨b, o, none⟩ ∧ ∀ i, i < n → w.cell? ⟨b, o + i, none⟩ = some (vs i) ∧ NumsAt w (vs i) (ns i) (zs i) := by
    rcases HT.out with ⟨_, _, _, h1⟩ | ⟨b, o, c, h1, _, h2⟩
    · omega
    · simp only [Value.slice.injEq, true_and] at h1
      exact ⟨b, o, h1.1, h2⟩
  have HR := Hid.mk' hrows
  have HNS := Hid.mk' hns
  have HE : Hid (chainErr n ns zs = if shapeB n ns zs n = true then 3 else if boundB ns zs n = true then 2 else 0) := by show _ = _; unfold chainErr; rw [if_neg h8, if_neg (by omega)]
  clear hrows hns
  go_enter Tryd.func20, Tryd.ntmps20
  go_wp2_with fail
  go_loop [3, 4] (fun s t => ∃ k : Nat, k ≤ n ∧ t = .int .i64 k ∧ s = .bool (boundB ns zs k) ∧ Hid (shapeB n ns zs k = false)) (fun _ t => n - (intOf t).toNat)
  case atStart => exact ⟨0, Nat.zero_le _, rfl, rfl, rfl⟩
  case round =>
    obtain ⟨k, hk, rfl, rfl, HS⟩ := hrel
    rcases Nat.lt_or_ge k n with h1 | h1
    · have hkI : (k : Int) < (n : Int) := by omega
      have hk0 : (0 : Int) ≤ (k : Int) := by omega
      obtain ⟨hc, hnum⟩ := HR.out k h1
      obtain ⟨rad, rcap, hre⟩ := hnum.form
      rw [hre] at hc hnum
      have hle := listError_any _ (ns k) (zs k) w hnum (HNS.out k h1)
      have hnk := HNS.out k h1
      by_cases hsh : ns k = n
      · have HSH := Hid.mk' hsh
        rcases listErr_cases (zs k) (ns k) with h5 | h5 | h5
        · rw [h5, hsh] at hle
          rw [hsh] at hc
          have HS' : Hid (shapeB n ns zs (k + 1) = false) := by show _ = _; rw [shapeB, HS.out, decide_eq_false (by rw [h5]; have := HSH.out; omega)]; rfl
          have HB' : Hid (boundB ns zs (k + 1) = boundB ns zs k) := by show _ = _; rw [boundB, decide_eq_false (by rw [h5]; simp)]; simp
          cases hbb : boundB ns zs k with
          | true =>
            rw [hbb] at HB'
            clear h5 hsh
            go_wp2_with fail
            refine hle.mono ?_
            clear hle
            rintro e w2 ⟨rfl, hw2⟩
            go_wp2_with fail
            exact ⟨⟨k + 1, h1, by go_num, by rw [HB'.out], HS'⟩, by simp [intOf]; omega⟩
          | false =>
            rw [hbb] at HB'
            clear h5 hsh
            go_wp2_with fail
            refine hle.mono ?_
            clear hle
            rintro e w2 ⟨rfl, hw2⟩
            go_wp2_with fail
            exact ⟨⟨k + 1, h1, by go_num, by rw [HB'.out], HS'⟩, by simp [intOf]; omega⟩
        · rw [h5, hsh] at hle
          rw [hsh] at hc
          have HS' : Hid (shapeB n ns zs (k + 1) = false) := by show _ = _; rw [shapeB, HS.out, decide_eq_false (by rw [h5]; have := HSH.out; omega)]; rfl
          have HB' : Hid (boundB ns zs (k + 1) = true) := by show _ = _; rw [boundB, decide_eq_true (by rw [h5]; simp)]; simp
          cases hbb : boundB ns zs k with
          | true =>
            clear h5 hsh
            go_wp2_with fail
            refine hle.mono ?_
            clear hle
            rintro e w2 ⟨rfl, hw2⟩
            go_wp2_with fail
            exact ⟨⟨k + 1, h1, by go_num, by rw [HB'.out], HS'⟩, by simp [intOf]; omega⟩
          | false =>
            clear h5 hsh
            go_wp2_with fail
            refine hle.mono ?_
            clear hle
            rintro e w2 ⟨rfl, hw2⟩
            go_wp2_with fail
            exact ⟨⟨k + 1, h1, by go_num, by rw [HB'.out], HS'⟩, by simp [intOf]; omega⟩
        · rw [h5, hsh] at hle
          rw [hsh] at hc
          have HV : Hid (chainErr n ns zs = 3) := by show _ = _; rw [HE.out, if_pos (shapeB_at h1 (Or.inr h5))]
          clear h5 hsh
          go_wp2_with fail
          refine hle.mono ?_
          clear hle
          rintro e w2 ⟨rfl, hw2⟩
          go_wp2_with fail
          go_ret
          exact ⟨ret_int (by rw [HV.out]; rfl), rfl⟩
      · have hne : ((ns k : Int) != (n : Int)) = true := by rw [bne_iff_ne]; omega
        have HV : Hid (chainErr n ns zs = 3) := by show _ = _; rw [HE.out, if_pos (shapeB_at h1 (Or.inl hsh))]
        clear hsh hle
        go_wp2_with fail
        go_ret
        exact ⟨ret_int (by rw [HV.out]; rfl), rfl⟩
    · obtain rfl : n = k := by omega
      cases hbb : boundB ns zs n with
      | true =>
        have HV : Hid (chainErr n ns zs = 2) := by show _ = _; rw [HE.out, HS.out, if_neg (by simp), if_pos hbb]
        go_wp2_with fail
        go_ret
        exact ⟨ret_int (by rw [HV.out]; rfl), rfl⟩
      | false =>
        have HV : Hid (chainErr n ns zs = 0) := by show _ = _; rw [HE.out, HS.out, if_neg (by simp), if_neg (by rw [hbb]; simp)]
        go_wp2_with fail
        go_ret
        exact ⟨ret_int (by rw [HV.out]; rfl), rfl⟩
end Go.Proofs.YthomgmhmbalnbaaDoor

/- heat.keeps: is each step as often one way as the other? -/
namespace Go.Proofs.YthomgmhmbalnbaaDoor
open Go.RowKit

/-- Are two states not changed as often one way as the other? -/
def unB (z : Nat → Int) (P : Nat → Nat → Int) (n i k : Nat) : Bool := z i * P i k * sumN (P k) n != z k * P k i * sumN (P i) n
def unK (z : Nat → Int) (P : Nat → Nat → Int) (n : Nat) : Bool := anyB (fun i => anyB (unB z P n i) i) n
theorem row_of {w : World} {v : Value} {n : Nat} {z : Nat → Int} (h : NumsAt w v n z) (h0 : 0 < n) : ∃ b o cap, v = .slice (some ⟨b, o, none⟩) n cap ∧ RowAt w b o n z := by
  rcases h with ⟨_, _, _, h1⟩ | ⟨b, o, cap, h1, _, h2⟩
  · omega
  · exact ⟨b, o, cap, h1, h2⟩
theorem tab_of {w : World} {v : Value} {n : Nat} {vs : Nat → Value} {ns : Nat → Nat} {zs : Nat → Nat → Int} (h : TabAt w v n vs ns zs) (h0 : 0 < n) : ∃ b o cap, v = .slice (some ⟨b, o, none⟩) n cap ∧ ∀ i, i < n → w.cell? ⟨b, o + i, none⟩ = some (vs i) ∧ NumsAt w (vs i) (ns i) (zs i) := by
  rcases h with ⟨_, _, _, h1⟩ | ⟨b, o, cap, h1, _, h2⟩
  · omega
  · exact ⟨b, o, cap, h1, h2⟩
theorem wrap_prod {x y : Int} (hx0 : 0 ≤ x) (hx : x ≤ 16777216) (hy0 : 0 ≤ y) (hy : y ≤ 4096) : IntKind.i64.wrap (x * y) = x * y := by
  have h1 : 0 ≤ x * y := Int.mul_nonneg hx0 hy0
  have h2 : x * y ≤ 16777216 * 4096 := Int.mul_le_mul hx hy hy0 (by decide)
  rw [IntKind.wrap_i64]
  omega
theorem prod_bd {x y : Int} (hx0 : 0 ≤ x) (hx : x ≤ 4096) (hy0 : 0 ≤ y) (hy : y ≤ 4096) : 0 ≤ x * y ∧ x * y ≤ 16777216 :=
  ⟨Int.mul_nonneg hx0 hy0, Int.le_trans (Int.mul_le_mul hx hy hy0 (by decide)) (by decide)⟩

set_option maxRecDepth 100000 in
set_option maxHeartbeats 4000000 in
theorem keeps_any (v u : Value) (n : Nat) (vs : Nat → Value) (ns : Nat → Nat) (P : Nat → Nat → Int) (z : Nat → Int) (w : World) (h : TabAt w v n vs ns P) (hz : NumsAt w u n z) (h0 : 0 < n) (hn : n ≤ 8) (hns : ∀ i, i < n → ns i = n) (hok : ∀ i, i < n → OkW (P i) n) (hw : ∀ i, i < n → 1 ≤ z i ∧ z i ≤ 1000) :
    Calls Tryd.prog 68 #[v, u] w fun e w' => e = .returned (.bool (!unK z P n)) ∧ Below w.heap.size w w' := by
  obtain ⟨b, o, cap, rfl, hr⟩ := tab_of h h0
  obtain ⟨bz, oz, cz, rfl, hrz⟩ := row_of hz h0
  have hrow : ∀ i, i < n → ∃ rb ro rc, vs i = .slice (some ⟨rb, ro, none⟩) n rc ∧ RowAt w rb ro n (P i) := fun i hi => by
    have h1 := (hr i hi).2
    rw [hns i hi] at h1
    exact row_of h1 h0
  have HR : Hid (∀ i, i < n → ∃ rb ro rc, w.cell? ⟨b, o + i, none⟩ = some (.slice (some ⟨rb, ro, none⟩) n rc) ∧ RowAt w rb ro n (P i)) := fun i hi => by
    obtain ⟨rb, ro, rc, h1, h2⟩ := hrow i hi
    exact ⟨rb, ro, rc, by rw [← h1]; exact (hr i hi).1, h2⟩
  have HZ := Hid.mk' hrz
  have HOK := Hid.mk' hok
  have HWZ := Hid.mk' hw
  have hnI : (n : Int) ≤ 8 := by omega
  have HDF : Hid (unK z P n = anyB (fun i => anyB (unB z P n i) i) n) := rfl
  clear h hz hr hrz hrow hns hok hw
  go_enter Tryd.func68, Tryd.ntmps68
  go_wp2_with fail
  go_loopw [9] (fun t wr => ∃ k : Nat, k ≤ n ∧ t = .int .i64 k ∧ Hid (anyB (fun i => anyB (unB z P n i) i) k = false) ∧ Hid (Below w.heap.size w wr)) (fun t _ => n - (intOf t).toNat)
  case atStart => exact ⟨0, Nat.zero_le _, rfl, rfl, Below.refl _ _⟩
  case round =>
    obtain ⟨i, hi, rfl, HS, HB⟩ := hrel
    rcases Nat.lt_or_ge i n with h1 | h1
    · have hiI : (i : Int) < (n : Int) := by omega
      have hi0 : (0 : Int) ≤ (i : Int) := by omega
      obtain ⟨rb, ro, rc, hc, hR⟩ := HR.out i h1
      have HRI := Hid.mk' hR
      have HCI := Hid.mk' hc
      have HBAD : Hid (anyB (unB z P n i) i = true → unK z P n = true) := fun hq => by rw [HDF.out]; exact anyB_at (p := fun i => anyB (unB z P n i) i) hq h1
      have HGO : Hid (anyB (unB z P n i) i = false → anyB (fun i => anyB (unB z P n i) i) (i + 1) = false) := fun hq => by rw [anyB, HS.out]; exact hq
      obtain ⟨w1, hw1⟩ : ∃ w1, w1 = wr := ⟨_, rfl⟩
      rw [← hw1] at HB ⊢
      clear hc hR hw1
      go_wp2_with fail
      go_loopw [13] (fun t wr => ∃ k : Nat, k ≤ i ∧ t = .int .i64 k ∧ Hid (anyB (unB z P n i) k = false) ∧ Hid (Below w.heap.size w wr)) (fun t _ => i - (intOf t).toNat)
      case atStart => exact ⟨0, Nat.zero_le _, rfl, rfl, HB⟩
      case round =>
        clear HB
        obtain ⟨k, hk, rfl, HSK, HB⟩ := hrel
        rcases Nat.lt_or_ge k i with h2 | h2
        · have hkI : (k : Int) < (i : Int) := by omega
          have hkn : (k : Int) < (n : Int) := by omega
          have hk0 : (0 : Int) ≤ (k : Int) := by omega
          obtain ⟨sb, so, sc, hc, hR⟩ := HR.out k (by omega)
          have hbd : Below w.heap.size w wr.drew := HB.out.drew
          have e1 : wr.drew.cell? ⟨b, o + i, none⟩ = some (.slice (some ⟨rb, ro, none⟩) n rc) := by rw [hbd.cell (p := ⟨b, o + i, none⟩) (cell_lt HCI.out)]; exact HCI.out
          have e2 : wr.drew.cell? ⟨b, o + k, none⟩ = some (.slice (some ⟨sb, so, none⟩) n sc) := by rw [hbd.cell (p := ⟨b, o + k, none⟩) (cell_lt hc)]; exact hc
          have e3 : wr.drew.cell? ⟨bz, oz + i, none⟩ = some (.int .i64 (z i)) := HZ.out.later hbd i h1
          have e4 : wr.drew.cell? ⟨bz, oz + k, none⟩ = some (.int .i64 (z k)) := HZ.out.later hbd k (by omega)
          have e5 : wr.drew.cell? ⟨rb, ro + k, none⟩ = some (.int .i64 (P i k)) := HRI.out.later hbd k (by omega)
          have e6 : wr.drew.cell? ⟨sb, so + i, none⟩ = some (.int .i64 (P k i)) := hR.later hbd i h1
          have HTI := Hid.mk' (total_some rb ro rc n (P i) wr.drew (HRI.out.later hbd) (fun j hj => by have := (HOK.out i h1).part hj; omega) (fun j hj => by have := (HOK.out i h1).lt hj; omega) (by omega))
          have HTK := Hid.mk' (total_some sb so sc n (P k) wr.drew (hR.later hbd) (fun j hj => by have := (HOK.out k (by omega)).part hj; omega) (fun j hj => by have := (HOK.out k (by omega)).lt hj; omega) (by omega))
          have b1 := HWZ.out i h1
          have b2 := HWZ.out k (by omega)
          have b3 := (HOK.out i h1).lt (i := k) (by omega)
          have b4 := (HOK.out k (by omega)).lt h1
          have b5 := (HOK.out i h1).part (Nat.le_refl _)
          have b6 := (HOK.out k (by omega)).part (Nat.le_refl _)
          have HU : Hid (unB z P n i k = (z i * P i k * sumN (P k) n != z k * P k i * sumN (P i) n)) := rfl
          have HUB : Hid (unB z P n i k = true → unK z P n = true) := fun hq => HBAD.out (anyB_at (p := unB z P n i) hq h2)
          have HUG : Hid (unB z P n i k = false → anyB (unB z P n i) (k + 1) = false) := fun hq => by rw [anyB, HSK.out]; exact hq
          have HBD := Hid.mk' hbd
          clear hc hR hbd
          generalize unB z P n i k = UB at HU HUB HUG
          generalize sumN (P i) n = ti at *
          generalize sumN (P k) n = tk at *
          generalize P i k = pik at *
          generalize P k i = pki at *
          generalize z i = zi at *
          generalize z k = zk at *
          have f1 := wrap_prod (x := zi) (y := pik) (by omega) (by omega) b3.1 b3.2
          have f2 := wrap_prod (x := zk) (y := pki) (by omega) (by omega) b4.1 b4.2
          obtain ⟨g1, g2⟩ := prod_bd (x := zi) (y := pik) (by omega) (by omega) b3.1 b3.2
          obtain ⟨g3, g4⟩ := prod_bd (x := zk) (y := pki) (by omega) (by omega) b4.1 b4.2
          have f3 := wrap_prod (x := zi * pik) (y := tk) g1 g2 b6.1 b6.2
          have f4 := wrap_prod (x := zk * pki) (y := ti) g3 g4 b5.1 b5.2
          clear g1 g2 g3 g4 b1 b2 b3 b4 b5 b6
          have hX : (zi * pik * tk != zk * pki * ti) = UB := HU.out.symm
          clear HU
          go_upto_region 7 with fail
          have hcur : wr.drew.cell? ⟨b, o + i, none⟩ = some (.slice (some ⟨rb, ro, none⟩) n rc) ∧ wr.drew.cell? ⟨b, o + k, none⟩ = some (.slice (some ⟨sb, so, none⟩) n sc) ∧ wr.drew.cell? ⟨bz, oz + i, none⟩ = some (.int .i64 zi) ∧ wr.drew.cell? ⟨bz, oz + k, none⟩ = some (.int .i64 zk) ∧ wr.drew.cell? ⟨rb, ro + k, none⟩ = some (.int .i64 pik) ∧ wr.drew.cell? ⟨sb, so + i, none⟩ = some (.int .i64 pki) := ⟨e1, e2, e3, e4, e5, e6⟩
          clear e1 e2 e3 e4 e5 e6
          go_region_held3 (fun W => W.cell? ⟨b, o + i, none⟩ = some (.slice (some ⟨rb, ro, none⟩) n rc) ∧ W.cell? ⟨b, o + k, none⟩ = some (.slice (some ⟨sb, so, none⟩) n sc) ∧ W.cell? ⟨bz, oz + i, none⟩ = some (.int .i64 zi) ∧ W.cell? ⟨bz, oz + k, none⟩ = some (.int .i64 zk) ∧ W.cell? ⟨rb, ro + k, none⟩ = some (.int .i64 pik) ∧ W.cell? ⟨sb, so + i, none⟩ = some (.int .i64 pki))
            (exact hcur)
            (first
              | (go_at_call 51; (have hz7 := hbw7; clear hz7); refine HTI.out.mono ?_; rintro e w6 ⟨rfl, hw6⟩; rw [hw6]; clear hw6)
              | (go_at_call 51; refine HTK.out.mono ?_; rintro e w5 ⟨rfl, hw5⟩; rw [hw5]; clear hw5; have hbw7 : True := trivial))
          cases UB with
          | true =>
            have HF := Hid.mk' (HUB.out rfl)
            go_wp2_with fail
            go_ret
            exact ⟨by rw [HF.out]; rfl, HBD.out⟩
          | false =>
            have HF := Hid.mk' (HUG.out rfl)
            go_wp2_with fail
            exact ⟨⟨k + 1, h2, by go_num, HF, HBD⟩, by simp [intOf]; omega⟩
        · obtain rfl : k = i := by omega
          have HF := Hid.mk' (HGO.out HSK.out)
          go_wp2_with fail
          exact ⟨⟨k + 1, h1, by go_num, HF, HB⟩, by simp [intOf]; omega⟩
    · obtain rfl : i = n := by omega
      have HF : Hid (unK z P i = false) := by show _ = _; rw [HDF.out]; exact HS.out
      go_wp2_with fail
      go_ret
      exact ⟨by rw [HF.out]; rfl, HB.out⟩
end Go.Proofs.YthomgmhmbalnbaaDoor

/- chain.Valid. -/
namespace Go.Proofs.YthomgmhmbalnbaaDoor
open Go.RowKit

theorem weightsErr_few {z : Nat → Int} {n : Nat} (h : n ≤ 16) : weightsErr z n = listErr z n := by unfold weightsErr; rw [if_neg (by omega)]
set_option maxRecDepth 100000 in
set_option maxHeartbeats 4000000 in
theorem chainValid_any (a : Nat → Addr) (v : Value) (n : Nat) (vs : Nat → Value) (ns : Nat → Nat) (zs : Nat → Nat → Int) (w : World) (hE : Errs w a) (h : TabAt w v n vs ns zs) (hn : n ≤ 1000000) :
    Calls Tryd.prog 49 #[v] w fun e w' => e = .returned (errV a (chainErr n ns zs)) ∧ w' = w := by
  obtain ⟨ad, cap, rfl⟩ := h.form
  have HT := Hid.mk' h
  have cB := hE.c1
  have cS := hE.c2
  obtain ⟨i, hi, hcmp⟩ := Option.map_eq_some_iff.1 Tryd.isComp
  obtain ⟨j, hj, hjs⟩ := Option.map_eq_some_iff.1 Tryd.isSize
  have heq := run_eql_iface_ptr_same (P := Tryd.prog) w (a 2) Tryd.underlying34 Tryd.underlying126 hi hcmp hj
  obtain ⟨ca, ta, hca⟩ := hE.row 1 (by decide)
  obtain ⟨cb, tb, hcb⟩ := hE.row 2 (by decide)
  have hne2 := run_eql_iface_ptr_other (P := Tryd.prog) w Tryd.underlying34 Tryd.underlying126 hi hcmp hj (by rw [hjs]; decide) (hE.ne 1 2 (by decide) (by decide) (by decide)) hca hcb
  have HEE := Hid.mk' hE
  clear h hca hcb hi hcmp hj hjs hE
  by_cases h8 : 8 < n
  · have hI : (8 : Int) < (n : Int) := by omega
    have he : chainErr n ns zs = 2 := by unfold chainErr; rw [if_pos h8]
    rw [he, errV_two]
    go_enter Tryd.func49, Tryd.ntmps49
    go_wp2_with fail
    go_ret
    exact ⟨rfl, rfl⟩
  have hI : ¬ (8 : Int) < (n : Int) := by omega
  rcases Nat.eq_zero_or_pos n with h0 | h0
  · subst h0
    have he : chainErr 0 ns zs = 3 := by unfold chainErr; simp
    rw [he, errV_three]
    go_enter Tryd.func49, Tryd.ntmps49
    go_wp2_with fail
    go_ret
    exact ⟨rfl, rfl⟩
  have hz : ((n : Int) == 0) = false := by rw [beq_eq_false_iff_ne]; omega
  obtain ⟨b, o, rfl, hrows⟩ : ∃ b o, ad = some ⟨b, o, none⟩ ∧ ∀ i, i < n → w.cell? ⟨b, o + i, none⟩ = some (vs i) ∧ NumsAt w (vs i) (ns i) (zs i) := by
    rcases HT.out with ⟨_, _, _, h1⟩ | ⟨b, o, c, h1, _, h2⟩
    · omega
    · simp only [Value.slice.injEq, true_and] at h1
      exact ⟨b, o, h1.1, h2⟩
  have HR := Hid.mk' hrows
  have HE : Hid (chainErr n ns zs = if shapeB n ns zs n = true then 3 else if boundB ns zs n = true then 2 else 0) := by show _ = _; unfold chainErr; rw [if_neg h8, if_neg (by omega)]
  clear hrows
  go_enter Tryd.func49, Tryd.ntmps49
  go_wp2_with fail
  go_loop [3, 17] (fun s t => ∃ k : Nat, k ≤ n ∧ t = .int .i64 k ∧ s = errV a (if boundB ns zs k = true then 2 else 0) ∧ Hid (shapeB n ns zs k = false)) (fun _ t => n - (intOf t).toNat)
  case atStart => exact ⟨0, Nat.zero_le _, rfl, rfl, rfl⟩
  case round =>
    obtain ⟨k, hk, rfl, hsl, HS⟩ := hrel
    have HSL := Hid.mk' hsl
    clear hsl
    rcases Nat.lt_or_ge k n with h1 | h1
    · have hkI : (k : Int) < (n : Int) := by omega
      have hk0 : (0 : Int) ≤ (k : Int) := by omega
      obtain ⟨hc, hnum⟩ := HR.out k h1
      obtain ⟨rad, rcap, hre⟩ := hnum.form
      rw [hre] at hc hnum
      by_cases hsh : ns k = n
      · have HSH := Hid.mk' hsh
        have hle := Valid_weights a _ (ns k) (zs k) w HEE.out hnum (by omega)
        rw [weightsErr_few (by omega)] at hle
        rcases listErr_cases (zs k) (ns k) with h5 | h5 | h5
        · rw [h5, hsh, errV_zero] at hle
          rw [hsh] at hc
          have HS' : Hid (shapeB n ns zs (k + 1) = false) := by show _ = _; rw [shapeB, HS.out, decide_eq_false (by rw [h5]; have := HSH.out; omega)]; rfl
          have HB' : Hid (boundB ns zs (k + 1) = boundB ns zs k) := by show _ = _; rw [boundB, decide_eq_false (by rw [h5]; simp)]; simp
          clear h5 hsh hre hnum
          go_wp2_with fail
          refine hle.mono ?_
          clear hle
          rintro e w2 ⟨rfl, hw2⟩
          go_wp2_with fail
          exact ⟨⟨k + 1, h1, by go_num, by rw [HB'.out]; exact HSL.out, HS'⟩, by simp [intOf]; omega⟩
        · rw [h5, hsh, errV_two] at hle
          rw [hsh] at hc
          have HS' : Hid (shapeB n ns zs (k + 1) = false) := by show _ = _; rw [shapeB, HS.out, decide_eq_false (by rw [h5]; have := HSH.out; omega)]; rfl
          have HB' : Hid (boundB ns zs (k + 1) = true) := by show _ = _; rw [boundB, decide_eq_true (by rw [h5]; simp)]; simp
          clear h5 hsh hre hnum
          go_wp2_with fail
          refine hle.mono ?_
          clear hle
          rintro e w2 ⟨rfl, hw2⟩
          go_wp2_with fail
          exact ⟨⟨k + 1, h1, by go_num, by rw [HB'.out, if_pos rfl, errV_two], HS'⟩, by simp [intOf]; omega⟩
        · rw [h5, hsh, errV_three] at hle
          rw [hsh] at hc
          have HV : Hid (chainErr n ns zs = 3) := by show _ = _; rw [HE.out, if_pos (shapeB_at h1 (Or.inr h5))]
          clear h5 hsh hre hnum
          go_wp2_with fail
          refine hle.mono ?_
          clear hle
          rintro e w2 ⟨rfl, hw2⟩
          go_wp2_with fail
          go_ret
          exact ⟨by rw [HV.out, errV_three]; rfl, rfl⟩
      · have hne : ((ns k : Int) != (n : Int)) = true := by rw [bne_iff_ne]; omega
        have HV : Hid (chainErr n ns zs = 3) := by show _ = _; rw [HE.out, if_pos (shapeB_at h1 (Or.inl hsh))]
        clear hsh hre hnum
        go_wp2_with fail
        go_ret
        exact ⟨by rw [HV.out, errV_three]; rfl, rfl⟩
    · obtain rfl : n = k := by omega
      have HV : Hid (chainErr n ns zs = if boundB ns zs n = true then 2 else 0) := by show _ = _; rw [HE.out, HS.out, if_neg (by simp)]
      go_wp2_with fail
      go_ret
      exact ⟨by rw [HV.out, ← HSL.out]; rfl, rfl⟩
end Go.Proofs.YthomgmhmbalnbaaDoor

/- Errors with their places, of a process: what they are in memory. -/
namespace Go.Proofs.YthomgmhmbalnbaaDoor
open Go.RowKit

/-- An error by its number and place, in memory. -/
def ErrPl (a : Nat → Addr) (w : World) (v : Value) (c : Nat × Int) : Prop :=
  (v = errV a c.1 ∧ c.2 = -1 ∧ c.1 ≤ 8) ∨ ∃ pb, v = .iface 104 (.pointer (some ⟨pb, 0, none⟩)) ∧ w.cell? ⟨pb, 0, none⟩ = some (.int .i64 c.2) ∧ w.cell? ⟨pb, 1, none⟩ = some (.iface 126 (.pointer (some (a (c.1 - 1))))) ∧ 1 ≤ c.1 ∧ c.1 ≤ 8
theorem ErrPl.later {a : Nat → Addr} {w w' : World} {v : Value} {c : Nat × Int} (h : ErrPl a w v c) (hb : Below w.heap.size w w') : ErrPl a w' v c := by
  rcases h with h | ⟨pb, h1, h2, h3, h4⟩
  · exact Or.inl h
  · exact Or.inr ⟨pb, h1, by rw [hb.cell (cell_lt h2)]; exact h2, by rw [hb.cell (cell_lt h3)]; exact h3, h4⟩
theorem ErrPl.iface {a : Nat → Addr} {w : World} {v : Value} {c : Nat × Int} (h : ErrPl a w v c) (h0 : c.1 ≠ 0) : ∃ t x, v = .iface t x := by
  rcases h with ⟨rfl, _, _⟩ | ⟨pb, rfl, _⟩
  · rw [errV_pos a h0]; exact ⟨_, _, rfl⟩
  · exact ⟨_, _, rfl⟩
theorem ErrPl.nil0 {a : Nat → Addr} {w : World} {v : Value} {c : Nat × Int} (h : ErrPl a w v c) (h0 : c.1 = 0) : v = .nilIface := by
  rcases h with ⟨rfl, _, _⟩ | ⟨pb, rfl, _, _, h1, _⟩
  · rw [h0, errV_zero]
  · omega
end Go.Proofs.YthomgmhmbalnbaaDoor

/- heat.Valid: which processes are right. -/
namespace Go.Proofs.YthomgmhmbalnbaaDoor
open Go.RowKit

/-- Steps in memory: a table each. -/
def StpAt (w : World) (v : Value) (T : Nat) (tv : Nat → Value) (R : Nat → Nat) (rv : Nat → Nat → Value) (rn : Nat → Nat → Nat) (P : Nat → Nat → Nat → Int) : Prop := (∃ ad cap, v = .slice ad 0 cap ∧ T = 0) ∨ ∃ b o cap, v = .slice (some ⟨b, o, none⟩) T cap ∧ 0 < T ∧ ∀ t, t < T → w.cell? ⟨b, o + t, none⟩ = some (tv t) ∧ TabAt w (tv t) (R t) (rv t) (rn t) (P t)
theorem StpAt.later {w w' : World} {v : Value} {T : Nat} {tv : Nat → Value} {R : Nat → Nat} {rv : Nat → Nat → Value} {rn : Nat → Nat → Nat} {P : Nat → Nat → Nat → Int} (h : StpAt w v T tv R rv rn P) (hb : Below w.heap.size w w') : StpAt w' v T tv R rv rn P := by
  rcases h with h | ⟨b, o, cap, h1, h2, h3⟩
  · exact Or.inl h
  · exact Or.inr ⟨b, o, cap, h1, h2, fun t ht => ⟨by rw [hb.cell (cell_lt (h3 t ht).1)]; exact (h3 t ht).1, (h3 t ht).2.later hb⟩⟩
theorem StpAt.form {w : World} {v : Value} {T : Nat} {tv : Nat → Value} {R : Nat → Nat} {rv : Nat → Nat → Value} {rn : Nat → Nat → Nat} {P : Nat → Nat → Nat → Int} (h : StpAt w v T tv R rv rn P) : ∃ ad cap, v = .slice ad T cap := by
  rcases h with ⟨ad, cap, h1, h2⟩ | ⟨b, o, cap, h1, _⟩
  · subst h2; exact ⟨ad, cap, h1⟩
  · exact ⟨_, cap, h1⟩
theorem StpAt.at {w : World} {ad : Option Addr} {T cap : Nat} {tv : Nat → Value} {R : Nat → Nat} {rv : Nat → Nat → Value} {rn : Nat → Nat → Nat} {P : Nat → Nat → Nat → Int} (h : StpAt w (.slice ad T cap) T tv R rv rn P) {t : Nat} (ht : t < T) : ∃ b o, ad = some ⟨b, o, none⟩ ∧ ∀ t, t < T → w.cell? ⟨b, o + t, none⟩ = some (tv t) ∧ TabAt w (tv t) (R t) (rv t) (rn t) (P t) := by
  rcases h with ⟨_, _, _, h2⟩ | ⟨b, o, cap', h1, _, h3⟩
  · omega
  · simp only [Value.slice.injEq, true_and] at h1
    exact ⟨b, o, h1.1, h3⟩

/-- What is wrong with the steps, and where. -/
def spF (T n : Nat) (R : Nat → Nat) (P : Nat → Nat → Nat → Int) (W : Nat → Nat → Int) : Nat × Int :=
  if fstP (fun t => decide (R t ≠ n)) T < T then (3, (fstP (fun t => decide (R t ≠ n)) T : Int))
  else if fstP (fun t => unK (W (t + 1)) (P t) n) T < T then (8, (fstP (fun t => unK (W (t + 1)) (P t) n) T : Int)) else (0, -1)
theorem spF_shape {T n t : Nat} {R : Nat → Nat} {P : Nat → Nat → Nat → Int} {W : Nat → Nat → Int} (ht : t < T) (h : ∀ i, i < t → R i = n) (hR : R t ≠ n) : spF T n R P W = (3, (t : Int)) := by
  have h1 : fstP (fun t => decide (R t ≠ n)) T = t := fstP_at (decide_eq_true hR) ht (fun i hi => decide_eq_false (by simpa using h i hi))
  unfold spF
  rw [h1, if_pos ht]
theorem spF_kind {T n t : Nat} {R : Nat → Nat} {P : Nat → Nat → Nat → Int} {W : Nat → Nat → Int} (hR : ∀ i, i < T → R i = n) (ht : t < T) (h : ∀ i, i < t → unK (W (i + 1)) (P i) n = false) (hu : unK (W (t + 1)) (P t) n = true) : spF T n R P W = (8, (t : Int)) := by
  have h1 : fstP (fun t => decide (R t ≠ n)) T = T := fstP_no (fun i hi => decide_eq_false (by simpa using hR i hi))
  have h2 : fstP (fun t => unK (W (t + 1)) (P t) n) T = t := fstP_at (p := fun t => unK (W (t + 1)) (P t) n) hu ht h
  unfold spF
  rw [h1, if_neg (Nat.lt_irrefl _), h2, if_pos ht]
theorem spF_none {T n : Nat} {R : Nat → Nat} {P : Nat → Nat → Nat → Int} {W : Nat → Nat → Int} (hR : ∀ i, i < T → R i = n) (h : ∀ i, i < T → unK (W (i + 1)) (P i) n = false) : spF T n R P W = (0, -1) := by
  have h1 : fstP (fun t => decide (R t ≠ n)) T = T := fstP_no (fun i hi => decide_eq_false (by simpa using hR i hi))
  have h2 : fstP (fun t => unK (W (t + 1)) (P t) n) T = T := fstP_no (p := fun t => unK (W (t + 1)) (P t) n) h
  unfold spF
  rw [h1, if_neg (Nat.lt_irrefl _), h2, if_neg (Nat.lt_irrefl _)]
/-- What is wrong with a process, and where. -/
def prF (L : Nat) (ns : Nat → Nat) (W : Nat → Nat → Int) (T : Nat) (R : Nat → Nat) (rn : Nat → Nat → Nat) (P : Nat → Nat → Nat → Int) : Nat × Int :=
  if wtE L ns W T ≠ 0 then (wtE L ns W T, -1)
  else if fstP (fun t => decide (chainErr (R t) (rn t) (P t) ≠ 0)) T < T then (chainErr (R (fstP (fun t => decide (chainErr (R t) (rn t) (P t) ≠ 0)) T)) (rn (fstP (fun t => decide (chainErr (R t) (rn t) (P t) ≠ 0)) T)) (P (fstP (fun t => decide (chainErr (R t) (rn t) (P t) ≠ 0)) T)), -1)
  else spF T (ns 0) R P W
section
variable {L : Nat} {ns : Nat → Nat} {W : Nat → Nat → Int} {T : Nat} {R : Nat → Nat} {rn : Nat → Nat → Nat} {P : Nat → Nat → Nat → Int}
theorem prF_w (h : wtE L ns W T ≠ 0) : prF L ns W T R rn P = (wtE L ns W T, -1) := by unfold prF; rw [if_pos h]
theorem prF_c (h : wtE L ns W T = 0) {t : Nat} (ht : t < T) (h1 : ∀ i, i < t → chainErr (R i) (rn i) (P i) = 0) (h2 : chainErr (R t) (rn t) (P t) ≠ 0) : prF L ns W T R rn P = (chainErr (R t) (rn t) (P t), -1) := by
  have h3 : fstP (fun t => decide (chainErr (R t) (rn t) (P t) ≠ 0)) T = t := fstP_at (p := fun t => decide (chainErr (R t) (rn t) (P t) ≠ 0)) (decide_eq_true h2) ht (fun i hi => decide_eq_false (by simpa using h1 i hi))
  unfold prF
  rw [if_neg (by simpa using h), h3, if_pos ht]
theorem prF_s (h : wtE L ns W T = 0) (h1 : ∀ i, i < T → chainErr (R i) (rn i) (P i) = 0) : prF L ns W T R rn P = spF T (ns 0) R P W := by
  have h3 : fstP (fun t => decide (chainErr (R t) (rn t) (P t) ≠ 0)) T = T := fstP_no (p := fun t => decide (chainErr (R t) (rn t) (P t) ≠ 0)) (fun i hi => decide_eq_false (by simpa using h1 i hi))
  unfold prF
  rw [if_neg (by simpa using h), h3, if_neg (Nat.lt_irrefl _)]
/-- A right process. -/
structure OkP (L n : Nat) (ns : Nat → Nat) (W : Nat → Nat → Int) (T : Nat) (R : Nat → Nat) (rn : Nat → Nat → Nat) (P : Nat → Nat → Nat → Int) : Prop where
  hT : T ≤ 4
  hL : L = T + 1
  n0 : 0 < n
  n4 : n ≤ 4
  hn : ∀ i, i < L → ns i = n
  hW : ∀ i k, i < L → k < n → 1 ≤ W i k ∧ W i k ≤ 1000
  hR : ∀ t, t < T → R t = n
  hrn : ∀ t i, t < T → i < n → rn t i = n
  hP : ∀ t i, t < T → i < n → OkW (P t i) n
  bal : ∀ t i k, t < T → i < n → k < n → W (t + 1) i * P t i k * sumN (P t k) n = W (t + 1) k * P t k i * sumN (P t i) n
theorem unK_no {z : Nat → Int} {Q : Nat → Nat → Int} {n : Nat} (h : unK z Q n = false) (i k : Nat) (hi : i < n) (hk : k < n) : z i * Q i k * sumN (Q k) n = z k * Q k i * sumN (Q i) n := by
  have h1 : ∀ i k, i < n → k < i → z i * Q i k * sumN (Q k) n = z k * Q k i * sumN (Q i) n := fun i k hi hk => by
    have h2 := anyB_no (anyB_no h i hi) k hk
    unfold unB at h2
    simpa using h2
  rcases Nat.lt_or_ge k i with h2 | h2
  · exact h1 i k hi h2
  · rcases Nat.lt_or_ge i k with h3 | h3
    · exact (h1 k i hk h3).symm
    · obtain rfl : i = k := by omega
      rfl
theorem prF_ok (h : (prF L ns W T R rn P).1 = 0) : OkP L (ns 0) ns W T R rn P := by
  by_cases h1 : wtE L ns W T = 0
  · obtain ⟨a1, a2, a3, a4, a5, a6⟩ := wtE_ok h1
    by_cases h2 : ∀ i, i < T → chainErr (R i) (rn i) (P i) = 0
    · rw [prF_s h1 h2] at h
      by_cases h3 : ∀ i, i < T → R i = ns 0
      · by_cases h4 : ∀ i, i < T → unK (W (i + 1)) (P i) (ns 0) = false
        · refine ⟨by omega, a2, a3, a4, a5, a6, h3, fun t i ht hi => ?_, fun t i ht hi => ?_, fun t i k ht hi hk => unK_no (h4 t ht) i k hi hk⟩
          · obtain ⟨_, _, b1, b2⟩ := chainErr_ok (h2 t ht)
            rw [h3 t ht] at b1
            exact b1 i hi
          · obtain ⟨_, _, b1, b2⟩ := chainErr_ok (h2 t ht)
            rw [h3 t ht] at b2
            exact b2 i hi
        · exfalso
          unfold spF at h
          have e1 : fstP (fun t => decide (R t ≠ ns 0)) T = T := fstP_no (fun i hi => decide_eq_false (by simpa using h3 i hi))
          rw [e1, if_neg (Nat.lt_irrefl _)] at h
          by_cases h5 : fstP (fun t => unK (W (t + 1)) (P t) (ns 0)) T < T
          · rw [if_pos h5] at h; cases h
          · exact h4 (fstP_none h5)
      · exfalso
        unfold spF at h
        by_cases h5 : fstP (fun t => decide (R t ≠ ns 0)) T < T
        · rw [if_pos h5] at h; cases h
        · exact h3 (fun i hi => by simpa using fstP_none h5 i hi)
    · exfalso
      unfold prF at h
      rw [if_neg (by simpa using h1)] at h
      by_cases h5 : fstP (fun t => decide (chainErr (R t) (rn t) (P t) ≠ 0)) T < T
      · rw [if_pos h5] at h
        have := fstP_is h5
        simp only [decide_eq_true_eq] at this
        exact this h
      · exact h2 (fun i hi => by simpa using fstP_none h5 i hi)
  · rw [prF_w h1] at h
    exact absurd h h1
theorem prF_le : (prF L ns W T R rn P).1 ≤ 8 := by
  have h1 := wtE_le L ns W T
  unfold prF
  split
  · show wtE L ns W T ≤ 8
    omega
  · split
    · show chainErr _ _ _ ≤ 8
      have := chainErr_le (R (fstP (fun t => decide (chainErr (R t) (rn t) (P t) ≠ 0)) T)) (rn (fstP (fun t => decide (chainErr (R t) (rn t) (P t) ≠ 0)) T)) (P (fstP (fun t => decide (chainErr (R t) (rn t) (P t) ≠ 0)) T))
      omega
    · unfold spF
      split
      · show 3 ≤ 8
        decide
      · split
        · show 8 ≤ 8
          decide
        · show 0 ≤ 8
          decide
end

set_option maxRecDepth 100000 in
set_option maxHeartbeats 4000000 in
theorem stepsError_any (a : Nat → Addr) (v : Value) (L : Nat) (vs : Nat → Value) (ns : Nat → Nat) (W : Nat → Nat → Int) (sv : Value) (T : Nat) (tv : Nat → Value) (R : Nat → Nat) (rv : Nat → Nat → Value) (rn : Nat → Nat → Nat) (P : Nat → Nat → Nat → Int) (w : World) (hE : Errs w a) (h : TabAt w v L vs ns W) (hS : StpAt w sv T tv R rv rn P) (hw : wtE L ns W T = 0) (hc : ∀ t, t < T → chainErr (R t) (rn t) (P t) = 0) :
    Calls Tryd.prog 50 #[.agg #[v, sv]] w fun e w' => ∃ x, e = .returned x ∧ ErrPl a w' x (spF T (ns 0) R P W) ∧ Below w.heap.size w w' := by
  obtain ⟨a1, a2, a3, a4, a5, a6⟩ := wtE_ok hw
  obtain ⟨b, o, cap, rfl, hr⟩ := tab_of h (by omega)
  obtain ⟨sa, sc, rfl⟩ := hS.form
  obtain ⟨w1, hw1⟩ : ∃ w1, w1 = w.alloc (.cells #[.slice (some ⟨b, o, none⟩) L cap, .slice sa T sc] 37) := ⟨_, rfl⟩
  have hb1 : Below w.heap.size w w1 := by rw [hw1]; exact (Below.refl _ _).alloc (Nat.le_refl _) _
  have c0 : w1.cell? ⟨w.heap.size, 0, none⟩ = some (.slice (some ⟨b, o, none⟩) L cap) := by rw [hw1]; go_simp
  have c1 : w1.cell? ⟨w.heap.size, 1, none⟩ = some (.slice sa T sc) := by rw [hw1]; go_simp
  have HC : Hid (∀ W', Below w1.heap.size w1 W' → W'.cell? ⟨w.heap.size, 0, none⟩ = some (.slice (some ⟨b, o, none⟩) L cap) ∧ W'.cell? ⟨w.heap.size, 1, none⟩ = some (.slice sa T sc) ∧ W'.cell? ⟨1, 0, none⟩ = some (.iface 126 (.pointer (some (a 2)))) ∧ W'.cell? ⟨2, 0, none⟩ = some (.iface 126 (.pointer (some (a 7))))) := fun W' hb => ⟨by rw [hb.cell (cell_lt c0)]; exact c0, by rw [hb.cell (cell_lt c1)]; exact c1, ((hE.below hb1).below hb).c2, ((hE.below hb1).below hb).c7⟩
  have HEND : Hid (∀ W', Below w1.heap.size w1 W' → Below w.heap.size w W') := fun W' hb => hb1.trans (hb.mono hb1.size)
  have hSZ : w.heap.size < w1.heap.size := by rw [hw1]; simp
  have HSZ := Hid.mk' hSZ
  have HST := Hid.mk' (hS.later hb1)
  have HTA : Hid (∀ W', Below w1.heap.size w1 W' → ∀ i, i < L → W'.cell? ⟨b, o + i, none⟩ = some (vs i) ∧ NumsAt W' (vs i) (ns i) (W i)) := fun W' hb i hi => ⟨by rw [(HEND.out W' hb).cell (cell_lt (hr i hi).1)]; exact (hr i hi).1, (hr i hi).2.later (HEND.out W' hb)⟩
  obtain ⟨ra, rc, hr0⟩ := (hr 0 (by omega)).2.form
  have d0 := (HTA.out w1 (Below.refl _ _) 0 (by omega)).1
  rw [hr0, Nat.add_zero] at d0
  have HW1 := Hid.mk' hw1
  have hLI : (L : Int) ≤ 5 := by omega
  have hL0 : (0 : Int) < (L : Int) := by omega
  have hTI : (T : Int) ≤ 4 := by omega
  have HCE := Hid.mk' hc
  have HLT : Hid (L = T + 1) := a2
  have HNS := Hid.mk' a5
  have HWB := Hid.mk' a6
  have hn0I : ((ns 0 : Nat) : Int) ≤ 4 := by omega
  have HN0 : Hid (0 < ns 0 ∧ ns 0 ≤ 4) := ⟨a3, a4⟩
  have HSHP : Hid (∀ t, t < T → (∀ i, i < t → R i = ns 0) → R t ≠ ns 0 → spF T (ns 0) R P W = (3, (t : Int))) := fun t ht h1 h2 => spF_shape ht h1 h2
  have HKND : Hid ((∀ i, i < T → R i = ns 0) → ∀ t, t < T → (∀ i, i < t → unK (W (i + 1)) (P i) (ns 0) = false) → unK (W (t + 1)) (P t) (ns 0) = true → spF T (ns 0) R P W = (8, (t : Int))) := fun h1 t ht h2 h3 => spF_kind h1 ht h2 h3
  have HNON : Hid ((∀ i, i < T → R i = ns 0) → (∀ i, i < T → unK (W (i + 1)) (P i) (ns 0) = false) → spF T (ns 0) R P W = (0, -1)) := fun h1 h2 => spF_none h1 h2
  clear hE h hS hb1 hw1 hr hr0 a2 a5 a6 a1 hc hw hSZ
  generalize ns 0 = n0 at *
  go_enter Tryd.func50, Tryd.ntmps50
  go_upto_region 1 with fail
  rw [← HW1.out]
  go_wp2_with fail
  go_loopw [10] (fun t wr => ∃ k : Nat, k ≤ T ∧ t = .int .i64 k ∧ Hid (∀ i, i < k → R i = n0) ∧ wr = w1) (fun t _ => T - (intOf t).toNat)
  case atStart => exact ⟨0, Nat.zero_le _, rfl, (fun i hi => by omega), rfl⟩
  case round =>
    obtain ⟨k, hk, rfl, HS, hwr⟩ := hrel
    rw [hwr]
    clear hwr
    rcases Nat.lt_or_ge k T with h1 | h1
    · have hkI : (k : Int) < (T : Int) := by omega
      have hk0 : (0 : Int) ≤ (k : Int) := by omega
      obtain ⟨sb, so, rfl, hst⟩ := HST.out.at h1
      obtain ⟨hcell, htab⟩ := hst k h1
      obtain ⟨rad, rcap, hre⟩ := htab.form
      rw [hre] at hcell
      have hR8 : R k ≤ 8 := (chainErr_ok (HCE.out k h1)).2.1
      have hR8I : ((R k : Nat) : Int) ≤ 8 := by omega
      have HSK := Hid.mk' (HSHP.out k h1 HS.out)
      obtain ⟨g0, g1, g2, g7⟩ := HC.out w1 (Below.refl _ _)
      have HNX : Hid (R k = n0 → ∀ i, i < k + 1 → R i = n0) := fun hq i hi => by
        rcases Nat.lt_or_ge i k with h5 | h5
        · exact HS.out i h5
        · obtain rfl : i = k := by omega
          exact hq
      clear hst htab hre c0 c1
      generalize R k = Rk at *
      by_cases hq : Rk = n0
      · have hne : ((Rk : Int) != (n0 : Int)) = false := by rw [bne_eq_false_iff_eq]; omega
        have HF := Hid.mk' (HNX.out hq)
        clear hq
        go_wp2_with fail
        exact ⟨⟨k + 1, h1, by go_num, HF, trivial⟩, by simp [intOf]; omega⟩
      · have hne : ((Rk : Int) != (n0 : Int)) = true := by rw [bne_iff_ne]; omega
        have HF := Hid.mk' (HSK.out hq)
        clear hq
        go_wp2_with fail
        go_ret
        refine ⟨_, rfl, by rw [HF.out]; exact Or.inr ⟨_, rfl, by simp, by simp, by simp, by simp⟩, HEND.out _ ?_⟩
        first | exact (Below.refl _ _).alloc (Nat.le_refl _) _ | exact ((Below.refl _ _).alloc (Nat.le_refl _) _).drew
    · obtain rfl : k = T := by omega
      have HKN := Hid.mk' (HKND.out HS.out)
      have HNN := Hid.mk' (HNON.out HS.out)
      clear HSHP HKND HNON
      have hkI : ¬ ((k : Int) < (k : Int)) := by omega
      go_wp2_with fail
      go_loopw [32] (fun t wr => ∃ t' : Nat, t' ≤ k ∧ t = .int .i64 t' ∧ Hid (∀ i, i < t' → unK (W (i + 1)) (P i) n0 = false) ∧ Hid (Below w1.heap.size w1 wr)) (fun t _ => k - (intOf t).toNat)
      case atStart => exact ⟨0, Nat.zero_le _, rfl, (fun i hi => by omega), Below.refl _ _⟩
      case round =>
        obtain ⟨t, ht, rfl, HU, HB⟩ := hrel
        rcases Nat.lt_or_ge t k with h2 | h2
        · have htI : (t : Int) < (k : Int) := by omega
          have ht0 : (0 : Int) ≤ (t : Int) := by omega
          obtain ⟨sb, so, rfl, hst⟩ := HST.out.at h2
          obtain ⟨hcell0, htab0⟩ := hst t h2
          have hcell : wr.cell? ⟨sb, so + t, none⟩ = some (tv t) := by rw [HB.out.cell (cell_lt hcell0)]; exact hcell0
          have htab := htab0.later HB.out
          obtain ⟨rad, rcap, hre⟩ := htab.form
          obtain ⟨e1, e2⟩ := HTA.out wr HB.out (t + 1) (by have := HLT.out; omega)
          obtain ⟨qa, qc, hqe⟩ := e2.form
          obtain ⟨x1, x2, x3, x4⟩ := chainErr_ok (HCE.out t h2)
          have hRt := HS.out t h2
          rw [hRt] at htab hre x3 x4
          have e2' := e2
          rw [HNS.out (t + 1) (by have := HLT.out; omega)] at e2' hqe
          have HKP := Hid.mk' (keeps_any (tv t) (vs (t + 1)) n0 (rv t) (rn t) (P t) (W (t + 1)) wr htab e2' HN0.out.1 (by have := HN0.out; omega) x3 x4 (fun i hi => HWB.out (t + 1) i (by have := HLT.out; omega) hi))
          rw [hre, hqe] at HKP
          rw [hre] at hcell
          rw [hqe] at e1
          obtain ⟨g0, g1, g2, g7⟩ := HC.out wr HB.out
          have hLk : (t : Int) + 1 < (L : Int) := by have := HLT.out; omega
          have HKB := Hid.mk' (HKN.out t h2 HU.out)
          have HNX : Hid (unK (W (t + 1)) (P t) n0 = false → ∀ i, i < t + 1 → unK (W (i + 1)) (P i) n0 = false) := fun hq i hi => by
            rcases Nat.lt_or_ge i t with h5 | h5
            · exact HU.out i h5
            · obtain rfl : i = t := by omega
              exact hq
          clear hst hcell0 htab0 htab hre e2 e2' hqe x1 x2 x3 x4 hRt c0 c1
          generalize unK (W (t + 1)) (P t) n0 = UK at HKP HKB HNX
          cases UK with
          | false =>
            have HF := Hid.mk' (HNX.out rfl)
            go_wp2_with fail
            refine HKP.out.mono ?_
            rintro e w3 ⟨rfl, hb3⟩
            have HB3 := Hid.mk' (below_chain HB.out hb3)
            clear hb3 HKP
            go_wp2_with fail
            exact ⟨⟨t + 1, h2, by go_num, HF, HB3⟩, by simp [intOf]; omega⟩
          | true =>
            have HF := Hid.mk' (HKB.out rfl)
            go_wp2_with fail
            refine HKP.out.mono ?_
            rintro e w3 ⟨rfl, hb3⟩
            have HB3 := Hid.mk' (below_chain HB.out hb3)
            clear hb3 HKP g0 g1 g2 g7
            obtain ⟨g0, g1, g2, g7⟩ := HC.out w3 HB3.out
            have hle := HB3.out.size
            go_wp2_with fail
            go_ret
            refine ⟨_, rfl, by rw [HF.out]; exact Or.inr ⟨_, rfl, by simp, by simp, by simp, by simp⟩, HEND.out _ ?_⟩
            first | exact HB3.out.alloc hle _ | exact (HB3.out.alloc hle _).drew
        · obtain rfl : t = k := by omega
          have HF := Hid.mk' (HNN.out HU.out)
          go_wp2_with fail
          go_ret
          exact ⟨_, rfl, by rw [HF.out]; exact Or.inl ⟨rfl, rfl, by decide⟩, HEND.out _ HB.out⟩

set_option maxRecDepth 100000 in
set_option maxHeartbeats 4000000 in
theorem heatValid_any (a : Nat → Addr) (v : Value) (L : Nat) (vs : Nat → Value) (ns : Nat → Nat) (W : Nat → Nat → Int) (sv : Value) (T : Nat) (tv : Nat → Value) (R : Nat → Nat) (rv : Nat → Nat → Value) (rn : Nat → Nat → Nat) (P : Nat → Nat → Nat → Int) (w : World) (hE : Errs w a) (h : TabAt w v L vs ns W) (hS : StpAt w sv T tv R rv rn P) (hL : L ≤ 1000000) (hns : ∀ i, i < L → ns i ≤ 1000000) (hT : T ≤ 1000000) (hR : ∀ t, t < T → R t ≤ 1000000) :
    Calls Tryd.prog 22 #[.agg #[v, sv]] w fun e w' => ∃ x, e = .returned x ∧ ErrPl a w' x (prF L ns W T R rn P) ∧ Below w.heap.size w w' := by
  obtain ⟨ad, cap, rfl⟩ := h.form
  obtain ⟨sa, sc, rfl⟩ := hS.form
  obtain ⟨w1, hw1⟩ : ∃ w1, w1 = w.alloc (.cells #[.slice ad L cap, .slice sa T sc] 37) := ⟨_, rfl⟩
  have hb1 : Below w.heap.size w w1 := by rw [hw1]; exact (Below.refl _ _).alloc (Nat.le_refl _) _
  have c0 : w1.cell? ⟨w.heap.size, 0, none⟩ = some (.slice ad L cap) := by rw [hw1]; go_simp
  have c1 : w1.cell? ⟨w.heap.size, 1, none⟩ = some (.slice sa T sc) := by rw [hw1]; go_simp
  have HC : Hid (∀ W', Below w1.heap.size w1 W' → W'.cell? ⟨w.heap.size, 0, none⟩ = some (.slice ad L cap) ∧ W'.cell? ⟨w.heap.size, 1, none⟩ = some (.slice sa T sc)) := fun W' hb => ⟨by rw [hb.cell (cell_lt c0)]; exact c0, by rw [hb.cell (cell_lt c1)]; exact c1⟩
  have HEND : Hid (∀ W', Below w1.heap.size w1 W' → Below w.heap.size w W') := fun W' hb => hb1.trans (hb.mono hb1.size)
  have HE : Hid (∀ W', Below w1.heap.size w1 W' → Errs W' a) := fun W' hb => (hE.below hb1).below hb
  have HTA : Hid (∀ W', Below w1.heap.size w1 W' → TabAt W' (.slice ad L cap) L vs ns W) := fun W' hb => h.later (HEND.out W' hb)
  have HST : Hid (∀ W', Below w1.heap.size w1 W' → StpAt W' (.slice sa T sc) T tv R rv rn P) := fun W' hb => hS.later (HEND.out W' hb)
  have HWE := Hid.mk' (weightsError_any a _ L vs ns W sa T sc w1 (hE.below hb1) (h.later hb1) hL hns hT)
  have HW1 := Hid.mk' hw1
  have hTI : (T : Int) ≤ 1000000 := by omega
  have HRB := Hid.mk' hR
  clear hE h hS hb1 hw1 hns hL hR
  by_cases hw : wtE L ns W T = 0
  · rw [hw] at HWE
    have HWZ := Hid.mk' hw
    clear hw
    have HEN : Hid (errV a 0 = .nilIface) := rfl
    rw [HEN.out] at HWE
    go_enter Tryd.func22, Tryd.ntmps22
    go_upto_region 1 with fail
    rw [← HW1.out]
    go_wp2_with fail
    refine HWE.out.mono ?_
    rintro e w2 ⟨rfl, hb2⟩
    have HB2 := Hid.mk' hb2
    clear c0 c1 HWE
    obtain ⟨c0, c1⟩ := HC.out _ hb2
    clear hb2
    go_wp2_with fail
    go_loopw [15] (fun t wr => ∃ k : Nat, k ≤ T ∧ t = .int .i64 k ∧ Hid (∀ i, i < k → chainErr (R i) (rn i) (P i) = 0) ∧ wr = w2) (fun t _ => T - (intOf t).toNat)
    case atStart => exact ⟨0, Nat.zero_le _, rfl, (fun i hi => by omega), rfl⟩
    case round =>
      obtain ⟨k, hk, rfl, HS, hwr⟩ := hrel
      rw [hwr]
      clear hwr
      rcases Nat.lt_or_ge k T with h1 | h1
      · have hkI : (k : Int) < (T : Int) := by omega
        have hk0 : (0 : Int) ≤ (k : Int) := by omega
        have hst9 := HST.out w2 HB2.out
        obtain ⟨sb, so, rfl, hst⟩ := hst9.at h1
        obtain ⟨hcell, htab⟩ := hst k h1
        obtain ⟨rad, rcap, hre⟩ := htab.form
        have HCV := Hid.mk' (chainValid_any a (tv k) (R k) (rv k) (rn k) (P k) w2 (HE.out w2 HB2.out) htab (HRB.out k h1))
        rw [hre] at hcell HCV
        have HBAD : Hid (chainErr (R k) (rn k) (P k) ≠ 0 → prF L ns W T R rn P = (chainErr (R k) (rn k) (P k), -1)) := fun hq => prF_c HWZ.out h1 HS.out hq
        have HLE := Hid.mk' (chainErr_le (R k) (rn k) (P k))
        have HNX : Hid (chainErr (R k) (rn k) (P k) = 0 → ∀ i, i < k + 1 → chainErr (R i) (rn i) (P i) = 0) := fun hq i hi => by
          rcases Nat.lt_or_ge i k with h5 | h5
          · exact HS.out i h5
          · obtain rfl : i = k := by omega
            exact hq
        clear hst htab hre hst9
        generalize chainErr (R k) (rn k) (P k) = CE at HCV HBAD HNX HLE
        by_cases hq : CE = 0
        · subst hq
          rw [HEN.out] at HCV
          have HF := Hid.mk' (HNX.out rfl)
          go_wp2_with fail
          refine HCV.out.mono ?_
          rintro e w3 ⟨rfl, hw3⟩
          rw [hw3]
          clear hw3 HCV
          go_wp2_with fail
          exact ⟨⟨k + 1, h1, by go_num, HF, trivial⟩, by simp [intOf]; omega⟩
        · have HF := Hid.mk' (HBAD.out hq)
          have HEV : Hid (errV a CE = .iface 126 (.pointer (some (a (CE - 1))))) := errV_pos a hq
          rw [HEV.out] at HCV
          clear hq
          go_wp2_with fail
          refine HCV.out.mono ?_
          rintro e w3 ⟨rfl, hw3⟩
          rw [hw3]
          clear hw3 HCV
          go_wp2_with fail
          go_ret
          refine ⟨_, rfl, by rw [HF.out]; exact Or.inl ⟨HEV.out.symm, rfl, by have := HLE.out; show CE ≤ 8; omega⟩, HEND.out _ HB2.out⟩
      · obtain rfl : k = T := by omega
        have HSE := Hid.mk' (stepsError_any a _ L vs ns W _ k tv R rv rn P w2 (HE.out w2 HB2.out) (HTA.out w2 HB2.out) (HST.out w2 HB2.out) HWZ.out HS.out)
        have HF : Hid (prF L ns W k R rn P = spF k (ns 0) R P W) := prF_s HWZ.out HS.out
        have hkI : ¬ ((k : Int) < (k : Int)) := by omega
        go_wp2_with fail
        refine HSE.out.mono ?_
        rintro e w3 ⟨x, rfl, hx, hb3⟩
        have HX := Hid.mk' hx
        have HB3 := Hid.mk' (below_chain HB2.out hb3)
        clear hx hb3 HSE
        go_wp2_with fail
        go_ret
        exact ⟨_, rfl, by rw [HF.out]; exact HX.out, HEND.out _ HB3.out⟩
  · have HF : Hid (prF L ns W T R rn P = (wtE L ns W T, -1)) := prF_w hw
    have HEV : Hid (errV a (wtE L ns W T) = .iface 126 (.pointer (some (a (wtE L ns W T - 1))))) := errV_pos a hw
    have HLE := Hid.mk' (wtE_le L ns W T)
    rw [HEV.out] at HWE
    clear hw
    generalize wtE L ns W T = CE at *
    go_enter Tryd.func22, Tryd.ntmps22
    go_upto_region 1 with fail
    rw [← HW1.out]
    go_wp2_with fail
    refine HWE.out.mono ?_
    rintro e w2 ⟨rfl, hb2⟩
    have HB2 := Hid.mk' hb2
    clear hb2 HWE
    go_wp2_with fail
    go_ret
    exact ⟨_, rfl, by rw [HF.out]; exact Or.inl ⟨HEV.out.symm, rfl, by have := HLE.out; show CE ≤ 8; omega⟩, HEND.out _ HB2.out⟩
end Go.Proofs.YthomgmhmbalnbaaDoor

/- Fractions over one denominator in their lowest terms; sums by rising lists. -/
namespace Go.Proofs.YthomgmhmbalnbaaDoor

def lowG (M : Nat) (z : Int) : Nat := Nat.gcd z.natAbs M
def lowN (M : Nat) (z : Int) : Int := z.tdiv (lowG M z : Int)
def lowD (M : Nat) (z : Int) : Nat := M / lowG M z

theorem low_parts {n : Int} {d : Nat} (hd : 0 < d) : 0 < Nat.gcd n.natAbs d ∧ n = ((Nat.gcd n.natAbs d : Nat) : Int) * n.tdiv ((Nat.gcd n.natAbs d : Nat) : Int) ∧ d = Nat.gcd n.natAbs d * (d / Nat.gcd n.natAbs d) ∧ Nat.Coprime (n.tdiv ((Nat.gcd n.natAbs d : Nat) : Int)).natAbs (d / Nat.gcd n.natAbs d) ∧ (n.tdiv ((Nat.gcd n.natAbs d : Nat) : Int)).natAbs = n.natAbs / Nat.gcd n.natAbs d ∧ 0 < d / Nat.gcd n.natAbs d := by
  have hg : 0 < Nat.gcd n.natAbs d := Nat.gcd_pos_of_pos_right _ hd
  have h1 : Nat.gcd n.natAbs d ∣ n.natAbs := Nat.gcd_dvd_left _ _
  have h2 : Nat.gcd n.natAbs d ∣ d := Nat.gcd_dvd_right _ _
  have h3 : (n.tdiv ((Nat.gcd n.natAbs d : Nat) : Int)).natAbs = n.natAbs / Nat.gcd n.natAbs d := by rw [Int.natAbs_tdiv]; rfl
  refine ⟨hg, ?_, (Nat.mul_div_cancel' h2).symm, ?_, h3, Nat.div_pos (Nat.le_of_dvd hd h2) hg⟩
  · rw [Int.mul_tdiv_cancel' (Int.ofNat_dvd_left.2 h1)]
  · rw [h3]
    exact Nat.coprime_div_gcd_div_gcd hg
theorem lowG_pos {M : Nat} (h : 0 < M) (z : Int) : 0 < lowG M z := Nat.gcd_pos_of_pos_right _ h
theorem lowD_pos {M : Nat} (h : 0 < M) (z : Int) : 0 < lowD M z := (low_parts (n := z) h).2.2.2.2.2
theorem lowD_le (M : Nat) (z : Int) : lowD M z ≤ M := Nat.div_le_self _ _
theorem lowN_le {M : Nat} (h : 0 < M) (z : Int) : (lowN M z).natAbs ≤ z.natAbs := by
  have := (low_parts (n := z) h).2.2.2.2.1
  show (z.tdiv ((Nat.gcd z.natAbs M : Nat) : Int)).natAbs ≤ _
  rw [this]
  exact Nat.div_le_self _ _
theorem low_cross {M : Nat} (h : 0 < M) (z : Int) : lowN M z * (M : Int) = z * (lowD M z : Int) := by
  obtain ⟨_, h1, h2, _⟩ := low_parts (n := z) h
  have h2' : (M : Int) = ((Nat.gcd z.natAbs M : Nat) : Int) * ((M / Nat.gcd z.natAbs M : Nat) : Int) := by rw [← Int.natCast_mul, ← h2]
  show z.tdiv ((Nat.gcd z.natAbs M : Nat) : Int) * (M : Int) = z * ((M / Nat.gcd z.natAbs M : Nat) : Int)
  generalize Nat.gcd z.natAbs M = g at *
  generalize M / g = q at *
  generalize z.tdiv (g : Int) = t at *
  rw [h2', h1, ← Int.mul_assoc, Int.mul_comm t]
/-- One fraction has one lowest form. -/
theorem low_same {M d : Nat} {z n : Int} (hM : 0 < M) (hd : 0 < d) (h : n * (M : Int) = z * (d : Int)) : n.tdiv ((Nat.gcd n.natAbs d : Nat) : Int) = lowN M z ∧ d / Nat.gcd n.natAbs d = lowD M z := by
  obtain ⟨g1, g2, g3, g4, _, g6⟩ := low_parts (n := n) hd
  obtain ⟨k1, k2, k3, k4, _, k6⟩ := low_parts (n := z) hM
  show _ = z.tdiv ((Nat.gcd z.natAbs M : Nat) : Int) ∧ _ = M / Nat.gcd z.natAbs M
  generalize Nat.gcd n.natAbs d = g at *
  generalize Nat.gcd z.natAbs M = k at *
  generalize n.tdiv (g : Int) = n' at *
  generalize z.tdiv (k : Int) = z' at *
  generalize d / g = d' at *
  generalize M / k = m' at *
  have h1 : n' * (m' : Int) = z' * (d' : Int) := by
    have h2 : ((g : Int) * (k : Int)) * (n' * (m' : Int)) = ((g : Int) * (k : Int)) * (z' * (d' : Int)) := by
      calc ((g : Int) * (k : Int)) * (n' * (m' : Int)) = ((g : Int) * n') * ((k : Int) * (m' : Int)) := by grind
        _ = n * (M : Int) := by rw [← g2, ← Int.natCast_mul, ← k3]
        _ = z * (d : Int) := h
        _ = ((k : Int) * z') * ((g : Int) * (d' : Int)) := by rw [← k2, ← Int.natCast_mul, ← g3]
        _ = _ := by grind
    refine Int.eq_of_mul_eq_mul_left ?_ h2
    intro h0
    rcases Int.mul_eq_zero.1 h0 with h3 | h3 <;> omega
  have h2 : n'.natAbs * m' = z'.natAbs * d' := by
    have := congrArg Int.natAbs h1
    rwa [Int.natAbs_mul, Int.natAbs_mul, Int.natAbs_natCast, Int.natAbs_natCast] at this
  have h3 : m' ∣ d' := k4.symm.dvd_of_dvd_mul_left ⟨n'.natAbs, by rw [← h2, Nat.mul_comm]⟩
  have h4 : d' ∣ m' := g4.symm.dvd_of_dvd_mul_left ⟨z'.natAbs, by rw [h2, Nat.mul_comm]⟩
  have h5 : d' = m' := Nat.dvd_antisymm h4 h3
  subst h5
  exact ⟨Int.eq_of_mul_eq_mul_right (by omega) h1, rfl⟩
theorem low_plus {M : Nat} (hM : 0 < M) (z1 z2 : Int) : (lowN M z1 * (lowD M z2 : Int) + lowN M z2 * (lowD M z1 : Int)).tdiv ((Nat.gcd (lowN M z1 * (lowD M z2 : Int) + lowN M z2 * (lowD M z1 : Int)).natAbs (lowD M z1 * lowD M z2) : Nat) : Int) = lowN M (z1 + z2) ∧ lowD M z1 * lowD M z2 / Nat.gcd (lowN M z1 * (lowD M z2 : Int) + lowN M z2 * (lowD M z1 : Int)).natAbs (lowD M z1 * lowD M z2) = lowD M (z1 + z2) := by
  refine low_same hM (Nat.mul_pos (lowD_pos hM z1) (lowD_pos hM z2)) ?_
  have h1 := low_cross hM z1
  have h2 := low_cross hM z2
  rw [Int.natCast_mul]
  generalize lowN M z1 = a at *
  generalize lowN M z2 = b at *
  generalize (lowD M z1 : Int) = c at *
  generalize (lowD M z2 : Int) = e at *
  generalize (M : Int) = m at *
  grind
theorem low_one (z : Int) : lowN 1 z = z ∧ lowD 1 z = 1 := by
  unfold lowN lowD lowG
  rw [Nat.gcd_one_right]
  exact ⟨Int.tdiv_one z, rfl⟩

end Go.Proofs.YthomgmhmbalnbaaDoor

/- What is carried, in numbers: how great it grows, and what is told of it in the end. -/
namespace Go.Proofs.YthomgmhmbalnbaaDoor
open Go.RowKit

/-- How great the denominator may be behind t steps. -/
def bdT (t : Nat) : Nat := 2 ^ (14 + 96 * t)
theorem bdT_step (t : Nat) : bdT t * 2 ^ 96 = bdT (t + 1) := by unfold bdT; rw [← Nat.pow_add]; congr 1
theorem bdT_pos (t : Nat) : 0 < bdT t := Nat.pow_pos (by decide)
theorem bdT_le {s t : Nat} (h : s ≤ t) : bdT s ≤ bdT t := by unfold bdT; exact Nat.pow_le_pow_right (by decide) (by omega)
theorem bdT_four : bdT 4 ≤ 2 ^ 199 * 2 ^ 199 := by decide +kernel
theorem bdT_mono {t : Nat} (h : t ≤ 4) : bdT t ≤ 2 ^ 199 * 2 ^ 199 := Nat.le_trans (bdT_le h) bdT_four
theorem pow4 {n : Nat} (h : n ≤ 4) : 4096 ^ n ≤ 2 ^ 48 := by
  calc 4096 ^ n ≤ 4096 ^ 4 := Nat.pow_le_pow_right (by decide) h
    _ = 2 ^ 48 := by decide
theorem prdU_sml {u : Nat → Nat} {n k : Nat} (hn : n ≤ 4) (hk : k ≤ n) (hu : ∀ i, i < n → u i ≤ 4096) : prdU u k ≤ 2 ^ 48 := Nat.le_trans (prdU_le (fun i hi => hu i (by omega))) (pow4 (by omega))
theorem prdX_sml {u : Nat → Nat} {i n k : Nat} (hn : n ≤ 4) (hk : k ≤ n) (hu : ∀ i, i < n → u i ≤ 4096) : prdX u i k ≤ 2 ^ 48 := Nat.le_trans (prdX_le (by decide) (fun i hi => hu i (by omega))) (pow4 (by omega))
theorem car_le {n S : Nat} {w P : Nat → Nat} {D : Nat} (h : Car n S w P D) (hS : 0 < S) (hw : ∀ i, i < n → w i ≤ 4096) {i : Nat} (hi : i < n) : P i ≤ 4096 * D := by
  have h1 := h i hi
  have h2 : P i ≤ P i * S := Nat.le_mul_of_pos_right _ hS
  rw [h1] at h2
  exact Nat.le_trans h2 (Nat.mul_le_mul_right _ (hw i hi))
theorem big_room {x : Nat} (h : x ≤ 2 ^ 250 * 2 ^ 250 * 2 ^ 200) : x < 18446744073709551616 ^ 12 := Nat.lt_of_le_of_lt h (by decide +kernel)
/-- All that a round asks of sizes. -/
theorem round_sml {n S t : Nat} {u v X : Nat → Nat} {E : Nat} {q : Nat → Nat → Nat} {R : Nat → Nat} (hC : Car n S u X E) (hS : 0 < S) (hn : n ≤ 4) (ht : t < 4) (hE : E ≤ bdT t) (hu : ∀ i, i < n → u i ≤ 4096) (hv : ∀ i, i < n → v i ≤ 4096) (hR : ∀ i, i < n → R i ≤ 4096) (hq : ∀ i k, i < n → k < n → q i k ≤ 4096) :
    (∀ i, i < n → ∀ k, k ≤ n → X i * prdX u i k < 18446744073709551616 ^ 12) ∧ (∀ k, k ≤ n → E * prdU u k < 18446744073709551616 ^ 12) ∧ (∀ i, i < n → ∀ k, k ≤ n → X i * prdX u i n * v i * prdX R i k < 18446744073709551616 ^ 12) ∧ (∀ k, k ≤ n → E * prdU u n * prdU R k < 18446744073709551616 ^ 12) ∧ (∀ k, k < n → ∀ i, i ≤ n → smU (fun j => X j * prdX u j n * v j * prdX R j n * q j k) i < 18446744073709551616 ^ 12) ∧ E * prdU u n * prdU R n ≤ bdT (t + 1) := by
  have hE2 : E ≤ (2 ^ 199 * 2 ^ 199) := Nat.le_trans hE (bdT_mono (by omega))
  have hX : ∀ i, i < n → X i ≤ 2 ^ 12 * (2 ^ 199 * 2 ^ 199) := fun i hi => Nat.le_trans (car_le hC hS hu hi) (Nat.mul_le_mul_left _ hE2)
  have a1 : ∀ i, i < n → ∀ k, k ≤ n → X i * prdX u i k ≤ 2 ^ 12 * (2 ^ 199 * 2 ^ 199) * 2 ^ 48 := fun i hi k hk => Nat.mul_le_mul (hX i hi) (prdX_sml hn hk hu)
  have a2 : ∀ k, k ≤ n → E * prdU u k ≤ (2 ^ 199 * 2 ^ 199) * 2 ^ 48 := fun k hk => Nat.mul_le_mul hE2 (prdU_sml hn hk hu)
  have a3 : ∀ i, i < n → ∀ k, k ≤ n → X i * prdX u i n * v i * prdX R i k ≤ 2 ^ 12 * (2 ^ 199 * 2 ^ 199) * 2 ^ 48 * 2 ^ 12 * 2 ^ 48 := fun i hi k hk => Nat.mul_le_mul (Nat.mul_le_mul (a1 i hi n (Nat.le_refl _)) (hv i hi)) (prdX_sml hn hk hR)
  have a4 : ∀ k, k ≤ n → E * prdU u n * prdU R k ≤ (2 ^ 199 * 2 ^ 199) * 2 ^ 48 * 2 ^ 48 := fun k hk => Nat.mul_le_mul (a2 n (Nat.le_refl _)) (prdU_sml hn hk hR)
  have a5 : ∀ k, k < n → ∀ i, i ≤ n → smU (fun j => X j * prdX u j n * v j * prdX R j n * q j k) i ≤ 4 * (2 ^ 12 * (2 ^ 199 * 2 ^ 199) * 2 ^ 48 * 2 ^ 12 * 2 ^ 48 * 2 ^ 12) := fun k hk i hi => by
    refine Nat.le_trans (smU_le (u := fun j => X j * prdX u j n * v j * prdX R j n * q j k) (B := 2 ^ 12 * (2 ^ 199 * 2 ^ 199) * 2 ^ 48 * 2 ^ 12 * 2 ^ 48 * 2 ^ 12) (fun j hj => Nat.mul_le_mul (a3 j (by omega) n (Nat.le_refl _)) (hq j k (by omega) hk))) ?_
    exact Nat.mul_le_mul_right _ (by omega)
  refine ⟨fun i hi k hk => big_room (Nat.le_trans (a1 i hi k hk) (by decide +kernel)), fun k hk => big_room (Nat.le_trans (a2 k hk) (by decide +kernel)), fun i hi k hk => big_room (Nat.le_trans (a3 i hi k hk) (by decide +kernel)), fun k hk => big_room (Nat.le_trans (a4 k hk) (by decide +kernel)), fun k hk i hi => big_room (Nat.le_trans (a5 k hk i hi) (by decide +kernel)), ?_⟩
  rw [← bdT_step]
  have b1 : E * prdU u n * prdU R n ≤ bdT t * 2 ^ 48 * 2 ^ 48 := Nat.mul_le_mul (Nat.mul_le_mul hE (prdU_sml hn (Nat.le_refl _) hu)) (prdU_sml hn (Nat.le_refl _) hR)
  have b2 : bdT t * 2 ^ 48 * 2 ^ 48 = bdT t * 2 ^ 96 := by rw [Nat.mul_assoc, ← Nat.pow_add]
  rw [b2] at b1
  exact b1
theorem end_sml {n S : Nat} {u X : Nat → Nat} {E : Nat} (hC : Car n S u X E) (hS : 0 < S) (hn : n ≤ 4) (hE : E ≤ bdT 4) (hu : ∀ i, i < n → u i ≤ 4096) : E < 18446744073709551616 ^ 12 ∧ (∀ k, k ≤ n → smU X k < 18446744073709551616 ^ 12) ∧ ∀ i, i < n → X i < 18446744073709551616 ^ 12 := by
  have hE2 : E ≤ (2 ^ 199 * 2 ^ 199) := Nat.le_trans hE (bdT_mono (by omega))
  have hX : ∀ i, i < n → X i ≤ 2 ^ 12 * (2 ^ 199 * 2 ^ 199) := fun i hi => Nat.le_trans (car_le hC hS hu hi) (Nat.mul_le_mul_left _ hE2)
  refine ⟨big_room (Nat.le_trans hE2 (by decide +kernel)), fun k hk => big_room ?_, fun i hi => big_room (Nat.le_trans (hX i hi) (by decide +kernel))⟩
  refine Nat.le_trans (smU_le (fun i hi => hX i (by omega))) ?_
  exact Nat.le_trans (Nat.mul_le_mul_right _ (show k ≤ 4 by omega)) (by decide +kernel)
/-- What is told of N over D is what is told of A over B, if they are the same. -/
theorem told_same {a : Nat → Addr} {N D A B : Nat} (hD : 0 < D) (hB : 0 < B) (h : N * B = A * D) : N / Nat.gcd N D = A / Nat.gcd A B ∧ D / Nat.gcd N D = B / Nat.gcd A B ∧ toldV a N D = toldV a A B := by
  have h1 := low_same (M := B) (d := D) (z := (A : Int)) (n := (N : Int)) hB hD (by rw [← Int.natCast_mul, ← Int.natCast_mul, h])
  unfold lowN lowD lowG at h1
  rw [Int.natAbs_natCast, Int.natAbs_natCast] at h1
  have h3 : ((N / Nat.gcd N D : Nat) : Int) = ((A / Nat.gcd A B : Nat) : Int) := h1.1
  have h2 : N / Nat.gcd N D = A / Nat.gcd A B := by omega
  refine ⟨h2, h1.2, ?_⟩
  unfold toldV
  rw [h2, h1.2]
/-- Numbers of a right process. -/
def nU (W : Nat → Nat → Int) (t i : Nat) : Nat := (W t i).toNat
def nQ (P : Nat → Nat → Nat → Int) (t i k : Nat) : Nat := (P t i k).toNat
section
variable {L n : Nat} {ns : Nat → Nat} {W : Nat → Nat → Int} {T : Nat} {R : Nat → Nat} {rn : Nat → Nat → Nat} {P : Nat → Nat → Nat → Int}
theorem OkP.u_cast (h : OkP L n ns W T R rn P) {t i : Nat} (ht : t < L) (hi : i < n) : W t i = ((nU W t i : Nat) : Int) := by have := h.hW t i ht hi; unfold nU; omega
theorem OkP.u_bd (h : OkP L n ns W T R rn P) {t i : Nat} (ht : t < L) (hi : i < n) : 1 ≤ nU W t i ∧ nU W t i ≤ 1000 := by have := h.hW t i ht hi; unfold nU; omega
theorem OkP.q_cast (h : OkP L n ns W T R rn P) {t i k : Nat} (ht : t < T) (hi : i < n) (hk : k < n) : P t i k = ((nQ P t i k : Nat) : Int) := by have := (h.hP t i ht hi).lt hk; unfold nQ; omega
theorem OkP.q_sum (h : OkP L n ns W T R rn P) {t i : Nat} (ht : t < T) (hi : i < n) : sumN (P t i) n = ((smU (nQ P t i) n : Nat) : Int) := sumN_smU fun _ hk => h.q_cast ht hi hk
theorem OkP.r_bd (h : OkP L n ns W T R rn P) {t i : Nat} (ht : t < T) (hi : i < n) : 0 < smU (nQ P t i) n ∧ smU (nQ P t i) n ≤ 4096 := by
  have h1 := h.q_sum ht hi
  have h2 := (h.hP t i ht hi).le
  have h3 := (h.hP t i ht hi).pos
  omega
theorem OkP.q_bd (h : OkP L n ns W T R rn P) {t i k : Nat} (ht : t < T) (hi : i < n) (hk : k < n) : nQ P t i k ≤ 4096 := Nat.le_trans (smU_ge (u := nQ P t i) hk) (h.r_bd ht hi).2
theorem OkP.balN (h : OkP L n ns W T R rn P) {t : Nat} (ht : t < T) : Bal n (nU W (t + 1)) (nQ P t) := fun i k hi hk => by
  have h1 := h.bal t i k ht hi hk
  have hL := h.hL
  rw [h.u_cast (t := t + 1) (by omega) hi, h.u_cast (t := t + 1) (by omega) hk, h.q_cast ht hi hk, h.q_cast ht hk hi, h.q_sum ht hi, h.q_sum ht hk] at h1
  exact_mod_cast h1
theorem OkP.s_bd (h : OkP L n ns W T R rn P) {t : Nat} (ht : t < L) : 0 < smU (nU W t) n ∧ smU (nU W t) n ≤ 4000 := by
  have h1 := smU_ge (u := nU W t) h.n0
  have h2 := (h.u_bd ht h.n0).1
  have h3 := smU_le (u := nU W t) (B := 1000) (n := n) (fun i hi => (h.u_bd ht hi).2)
  have h4 : n * 1000 ≤ 4 * 1000 := Nat.mul_le_mul_right _ h.n4
  omega
end
end Go.Proofs.YthomgmhmbalnbaaDoor

/- heat.Mean. -/
namespace Go.Proofs.YthomgmhmbalnbaaDoor
open Go.RowKit

/-- The variable that is carried on. -/
structure NowS (w1 wr : World) (B n S t : Nat) (u : Nat → Nat) (g : Nat) (y : Value) (E : Nat) (F : Nat → Value) (X : Nat → Nat) : Prop where
  below : Below w1.heap.size w1 wr
  hB : w1.heap.size ≤ B
  ne : B ≠ g
  c0 : wr.cell? ⟨B, 0, none⟩ = some (.slice (some ⟨g, 0, none⟩) n n)
  c1 : wr.cell? ⟨B, 1, none⟩ = some y
  f0 : wr.frozen? ⟨B, 0, none⟩ = false
  f1 : wr.frozen? ⟨B, 1, none⟩ = false
  nd : NatAt wr y E
  nts : NtsAt wr g n F X
  car : Car n S u X E
  pos : 0 < E
  bd : E ≤ bdT t
theorem NowS.later {w1 wr wn : World} {B n S t : Nat} {u : Nat → Nat} {g : Nat} {y : Value} {E : Nat} {F : Nat → Value} {X : Nat → Nat} (h : NowS w1 wr B n S t u g y E F X) (hb : Below wr.heap.size wr wn) : NowS w1 wn B n S t u g y E F X :=
  ⟨below_chain h.below hb, h.hB, h.ne, by rw [hb.cell (cell_lt h.c0)]; exact h.c0, by rw [hb.cell (cell_lt h.c1)]; exact h.c1, by rw [hb.frozen (show B < wr.heap.size from cell_lt h.c1)]; exact h.f0, by rw [hb.frozen (show B < wr.heap.size from cell_lt h.c1)]; exact h.f1, h.nd.later hb, h.nts.later hb, h.car, h.pos, h.bd⟩
theorem NowS.put {w1 wr : World} {B n S t : Nat} {u : Nat → Nat} {g : Nat} {y : Value} {E : Nat} {F : Nat → Value} {X : Nat → Nat} (h : NowS w1 wr B n S t u g y E F X) {t' : Nat} {u' : Nat → Nat} {g' : Nat} {y' : Value} {E' : Nat} {F' : Nat → Value} {X' : Nat → Nat} (hne : B ≠ g') (hN : NtsAt wr g' n F' X') (hD : NatAt wr y' E') (hC : Car n S u' X' E') (hp : 0 < E') (hb : E' ≤ bdT t') :
    NowS w1 ((wr.setCell ⟨B, 0, none⟩ (.slice (some ⟨g', 0, none⟩) n n)).setCell ⟨B, 1, none⟩ y') B n S t' u' g' y' E' F' X' := by
  have c0 := h.c0
  obtain ⟨ya, yl, yc, hy⟩ := h.nd.isSlice
  have c1 := h.c1
  rw [hy] at c1
  have e1 : (wr.setCell ⟨B, 0, none⟩ (.slice (some ⟨g', 0, none⟩) n n)).cell? ⟨B, 1, none⟩ = some (.slice ya yl yc) := by rw [cell_put _ c0, if_neg (by simp)]; exact c1
  refine ⟨(h.below.setCell h.hB _).setCell h.hB _, h.hB, hne, ?_, ?_, ?_, ?_, (hD.putS c0).putS e1, (hN.aside c0 hne).aside e1 hne, hC, hp, hb⟩
  · rw [cell_put _ e1, if_neg (by simp), cell_put _ c0, if_pos rfl]
  · rw [cell_put _ e1, if_pos rfl]
  · rw [World.frozen?_setCell, World.frozen?_setCell]; exact h.f0
  · rw [World.frozen?_setCell, World.frozen?_setCell]; exact h.f1

set_option maxRecDepth 100000 in
set_option maxHeartbeats 4000000 in
theorem Mean_bad (a : Nat → Addr) (v : Value) (L : Nat) (vs : Nat → Value) (ns : Nat → Nat) (W : Nat → Nat → Int) (sv : Value) (T : Nat) (tv : Nat → Value) (R : Nat → Nat) (rv : Nat → Nat → Value) (rn : Nat → Nat → Nat) (P : Nat → Nat → Nat → Int) (w : World) (hE : Errs w a) (h : TabAt w v L vs ns W) (hS : StpAt w sv T tv R rv rn P) (hL : L ≤ 1000000) (hns : ∀ i, i < L → ns i ≤ 1000000) (hT : T ≤ 1000000) (hR : ∀ t, t < T → R t ≤ 1000000) (hb : (prF L ns W T R rn P).1 ≠ 0) :
    Calls Tryd.prog 8 #[.agg #[v, sv]] w fun e w' => ∃ x, e = .returned (.tuple #[.agg #[.int .i64 0, .int .i64 0], x]) ∧ ErrPl a w' x (prF L ns W T R rn P) ∧ Below w.heap.size w w' := by
  obtain ⟨ad, cap, rfl⟩ := h.form
  obtain ⟨sa, sc, rfl⟩ := hS.form
  have HBAD := Hid.mk' hb
  clear hb
  obtain ⟨w1, hw1⟩ : ∃ w1, w1 = (w.alloc (.cells #[.slice ad L cap, .slice sa T sc] 37)).alloc (.cells #[.int .i64 0, .int .i64 0] 32) := ⟨_, rfl⟩
  have hb1 : Below w.heap.size w w1 := by rw [hw1]; exact ((Below.refl _ _).alloc (Nat.le_refl _) _).alloc (by simp) _
  have c0 : w1.cell? ⟨w.heap.size, 0, none⟩ = some (.slice ad L cap) := by rw [hw1, World.cell?_alloc_lt _ _ ⟨w.heap.size, 0, none⟩ (by simp), World.cell?_alloc_at _ _ _ _ rfl]; rfl
  have c1 : w1.cell? ⟨w.heap.size, 1, none⟩ = some (.slice sa T sc) := by rw [hw1, World.cell?_alloc_lt _ _ ⟨w.heap.size, 1, none⟩ (by simp), World.cell?_alloc_at _ _ _ _ rfl]; rfl
  have c2 : w1.cell? ⟨w.heap.size + 1, 0, none⟩ = some (.int .i64 0) := by rw [hw1, World.cell?_alloc_at _ _ _ _ (by simp)]; rfl
  have c3 : w1.cell? ⟨w.heap.size + 1, 1, none⟩ = some (.int .i64 0) := by rw [hw1, World.cell?_alloc_at _ _ _ _ (by simp)]; rfl
  have c4 : w1.frozen? ⟨w.heap.size + 1, 0, none⟩ = false := by rw [hw1]; exact frozen_new (by simp)
  have c5 : w1.frozen? ⟨w.heap.size + 1, 1, none⟩ = false := by rw [hw1]; exact frozen_new (by simp)
  have hsz : w.heap.size + 1 < w1.heap.size := by rw [hw1]; simp
  have HSZ := Hid.mk' hsz
  have HC : Hid (∀ W, Below w1.heap.size w1 W → (W.cell? ⟨w.heap.size, 0, none⟩ = some (.slice ad L cap) ∧ W.cell? ⟨w.heap.size, 1, none⟩ = some (.slice sa T sc)) ∧ (W.cell? ⟨w.heap.size + 1, 0, none⟩ = some (.int .i64 0) ∧ W.cell? ⟨w.heap.size + 1, 1, none⟩ = some (.int .i64 0)) ∧ W.frozen? ⟨w.heap.size + 1, 0, none⟩ = false ∧ W.frozen? ⟨w.heap.size + 1, 1, none⟩ = false) := fun W hb => ⟨⟨by rw [hb.cell (cell_lt c0)]; exact c0, by rw [hb.cell (cell_lt c1)]; exact c1⟩, ⟨by rw [hb.cell (cell_lt c2)]; exact c2, by rw [hb.cell (cell_lt c3)]; exact c3⟩, by rw [hb.frozen (show w.heap.size + 1 < w1.heap.size from hsz)]; exact c4, by rw [hb.frozen (show w.heap.size + 1 < w1.heap.size from hsz)]; exact c5⟩
  have HEND : Hid (∀ W, Below w1.heap.size w1 W → Below w.heap.size w W) := fun W hb => hb1.trans (hb.mono hb1.size)
  have HW1 := Hid.mk' hw1
  have HVA := Hid.mk' (heatValid_any a _ L vs ns W _ T tv R rv rn P w1 (hE.below hb1) (h.later hb1) (hS.later hb1) hL hns hT hR)
  clear hE h hS hb1 hw1 hsz hns hL hT hR c2 c3 c4 c5
  go_enter Tryd.func8, Tryd.ntmps8
  go_upto_region 1 with fail
  rw [← HW1.out]
  go_wp2_with fail
  refine HVA.out.mono ?_
  rintro e w2 ⟨x, rfl, hx, hb2⟩
  obtain ⟨xt, xx, rfl⟩ := hx.iface HBAD.out
  have HX := Hid.mk' hx
  have HB2 := Hid.mk' hb2
  clear hx hb2 HVA c0 c1
  obtain ⟨_, ⟨d2, d3⟩, d4, d5⟩ := HC.out _ HB2.out
  have HXX : Hid (ErrPl a ((w2.setCell ⟨w.heap.size + 1, 0, none⟩ (.int .i64 0)).setCell ⟨w.heap.size + 1, 1, none⟩ (.int .i64 0)) (.iface xt xx) (prF L ns W T R rn P)) := by
    have e1 : (w2.setCell ⟨w.heap.size + 1, 0, none⟩ (.int .i64 0)).cell? ⟨w.heap.size + 1, 1, none⟩ = some (.int .i64 0) := by rw [cell_put _ d2, if_neg (by simp)]; exact d3
    have hall : ∀ p, ((w2.setCell ⟨w.heap.size + 1, 0, none⟩ (.int .i64 0)).setCell ⟨w.heap.size + 1, 1, none⟩ (.int .i64 0)).cell? p = w2.cell? p := fun p => by
      rw [cell_put _ e1]
      split
      · rename_i e9; rw [e9]; exact d3.symm
      · rw [cell_put _ d2]
        split
        · rename_i e9; rw [e9]; exact d2.symm
        · rfl
    rcases HX.out with hl | ⟨pb, g1, g2, g3, g4⟩
    · exact Or.inl hl
    · exact Or.inr ⟨pb, g1, by rw [hall]; exact g2, by rw [hall]; exact g3, g4⟩
  have HBE : Hid (Below w.heap.size w ((w2.setCell ⟨w.heap.size + 1, 0, none⟩ (.int .i64 0)).setCell ⟨w.heap.size + 1, 1, none⟩ (.int .i64 0))) := ((HEND.out _ HB2.out).setCell (by simp) _).setCell (by simp) _
  have G0 : ((w2.setCell ⟨w.heap.size + 1, 0, none⟩ (.int .i64 0)).setCell ⟨w.heap.size + 1, 1, none⟩ (.int .i64 0)).cell? ⟨w.heap.size + 1, 0, none⟩ = some (.int .i64 0) := (put_two _ _ d2 d3).2.1
  have G1 : ((w2.setCell ⟨w.heap.size + 1, 0, none⟩ (.int .i64 0)).setCell ⟨w.heap.size + 1, 1, none⟩ (.int .i64 0)).cell? ⟨w.heap.size + 1, 1, none⟩ = some (.int .i64 0) := (put_two _ _ d2 d3).2.2
  have HG : Hid (((w2.setCell ⟨w.heap.size + 1, 0, none⟩ (.int .i64 0)).setCell ⟨w.heap.size + 1, 1, none⟩ (.int .i64 0)).cell? ⟨w.heap.size + 1, 0, none⟩ = some (.int .i64 0) ∧ ((w2.setCell ⟨w.heap.size + 1, 0, none⟩ (.int .i64 0)).setCell ⟨w.heap.size + 1, 1, none⟩ (.int .i64 0)).cell? ⟨w.heap.size + 1, 1, none⟩ = some (.int .i64 0)) := ⟨G0, G1⟩
  clear G0 G1 HC HX HB2
  go_wp2_with fail
  generalize (w2.setCell ⟨w.heap.size + 1, 0, none⟩ (.int .i64 0)).setCell ⟨w.heap.size + 1, 1, none⟩ (.int .i64 0) = W9 at *
  exact bodyPost_ret (v := .tuple #[.agg #[.int .i64 0, .int .i64 0], .iface xt xx]) (by simp [results, Tryd.results8, go_sem, HG.out.1, HG.out.2]) rfl ⟨_, rfl, HXX.out, HBE.out⟩
set_option maxRecDepth 100000 in
set_option maxHeartbeats 16000000 in
theorem Mean_ok (a : Nat → Addr) (v : Value) (L : Nat) (vs : Nat → Value) (ns : Nat → Nat) (W : Nat → Nat → Int) (sv : Value) (T : Nat) (tv : Nat → Value) (R : Nat → Nat) (rv : Nat → Nat → Value) (rn : Nat → Nat → Nat) (P : Nat → Nat → Nat → Int) (w : World) (hE : Errs w a) (h : TabAt w v L vs ns W) (hS : StpAt w sv T tv R rv rn P) (hL : L ≤ 1000000) (hns : ∀ i, i < L → ns i ≤ 1000000) (hT : T ≤ 1000000) (hR : ∀ t, t < T → R t ≤ 1000000) (hz : (prF L ns W T R rn P).1 = 0) :
    Calls Tryd.prog 8 #[.agg #[v, sv]] w fun e w' => e = .returned (.tuple #[.agg #[.int .i64 ((smU (nU W T) (ns 0) / Nat.gcd (smU (nU W T) (ns 0)) (smU (nU W 0) (ns 0)) : Nat) : Int), .int .i64 ((smU (nU W 0) (ns 0) / Nat.gcd (smU (nU W T) (ns 0)) (smU (nU W 0) (ns 0)) : Nat) : Int)], .nilIface]) ∧ Below w.heap.size w w' := by
  have hOK := prF_ok hz
  have hL4 := hOK.hL
  have hT4 := hOK.hT
  obtain ⟨b, o, cap, rfl, hr⟩ := tab_of h (by omega)
  obtain ⟨sa, sc, rfl⟩ := hS.form
  obtain ⟨w1, hw1⟩ : ∃ w1, w1 = (w.alloc (.cells #[.slice (some ⟨b, o, none⟩) L cap, .slice sa T sc] 37)).alloc (.cells #[.int .i64 0, .int .i64 0] 32) := ⟨_, rfl⟩
  have hb1 : Below w.heap.size w w1 := by rw [hw1]; exact ((Below.refl _ _).alloc (Nat.le_refl _) _).alloc (by simp) _
  have c0 : w1.cell? ⟨w.heap.size, 0, none⟩ = some (.slice (some ⟨b, o, none⟩) L cap) := by rw [hw1, World.cell?_alloc_lt _ _ ⟨w.heap.size, 0, none⟩ (by simp), World.cell?_alloc_at _ _ _ _ rfl]; rfl
  have c1 : w1.cell? ⟨w.heap.size, 1, none⟩ = some (.slice sa T sc) := by rw [hw1, World.cell?_alloc_lt _ _ ⟨w.heap.size, 1, none⟩ (by simp), World.cell?_alloc_at _ _ _ _ rfl]; rfl
  have c2 : w1.cell? ⟨w.heap.size + 1, 0, none⟩ = some (.int .i64 0) := by rw [hw1, World.cell?_alloc_at _ _ _ _ (by simp)]; rfl
  have c3 : w1.cell? ⟨w.heap.size + 1, 1, none⟩ = some (.int .i64 0) := by rw [hw1, World.cell?_alloc_at _ _ _ _ (by simp)]; rfl
  have c4 : w1.frozen? ⟨w.heap.size + 1, 0, none⟩ = false := by rw [hw1]; exact frozen_new (by simp)
  have c5 : w1.frozen? ⟨w.heap.size + 1, 1, none⟩ = false := by rw [hw1]; exact frozen_new (by simp)
  have hsz : w.heap.size + 1 < w1.heap.size := by rw [hw1]; simp
  have HSZ := Hid.mk' hsz
  have HC : Hid (∀ W, Below w1.heap.size w1 W → (W.cell? ⟨w.heap.size, 0, none⟩ = some (.slice (some ⟨b, o, none⟩) L cap) ∧ W.cell? ⟨w.heap.size, 1, none⟩ = some (.slice sa T sc)) ∧ (W.cell? ⟨w.heap.size + 1, 0, none⟩ = some (.int .i64 0) ∧ W.cell? ⟨w.heap.size + 1, 1, none⟩ = some (.int .i64 0)) ∧ W.frozen? ⟨w.heap.size + 1, 0, none⟩ = false ∧ W.frozen? ⟨w.heap.size + 1, 1, none⟩ = false) := fun W hb => ⟨⟨by rw [hb.cell (cell_lt c0)]; exact c0, by rw [hb.cell (cell_lt c1)]; exact c1⟩, ⟨by rw [hb.cell (cell_lt c2)]; exact c2, by rw [hb.cell (cell_lt c3)]; exact c3⟩, by rw [hb.frozen (show w.heap.size + 1 < w1.heap.size from hsz)]; exact c4, by rw [hb.frozen (show w.heap.size + 1 < w1.heap.size from hsz)]; exact c5⟩
  have HEND : Hid (∀ W, Below w1.heap.size w1 W → Below w.heap.size w W) := fun W hb => hb1.trans (hb.mono hb1.size)
  have HW1 := Hid.mk' hw1
  have HVA := Hid.mk' (heatValid_any a _ L vs ns W _ T tv R rv rn P w1 (hE.below hb1) (h.later hb1) (hS.later hb1) hL hns hT hR)
  have HWT : Hid (∀ t, t < L → ∃ rb ro rc, ∀ W', Below w1.heap.size w1 W' → W'.cell? ⟨b, o + t, none⟩ = some (.slice (some ⟨rb, ro, none⟩) (ns 0) rc) ∧ RowAt W' rb ro (ns 0) (fun i => ((nU W t i : Nat) : Int))) := fun t ht => by
    obtain ⟨h1, h2⟩ := hr t ht
    rw [hOK.hn t ht] at h2
    obtain ⟨rb, ro, rc, h3, h4⟩ := row_of h2 hOK.n0
    refine ⟨rb, ro, rc, fun W' hb => ⟨by rw [(HEND.out W' hb).cell (cell_lt h1), h1, h3], fun i hi => ?_⟩⟩
    have := h4.later (HEND.out W' hb) i hi
    rw [hOK.u_cast ht hi] at this
    exact this
  have HST : Hid (∀ t, t < T → ∃ sb so tb t0 tc, sa = some ⟨sb, so, none⟩ ∧ ∀ W', Below w1.heap.size w1 W' → W'.cell? ⟨sb, so + t, none⟩ = some (.slice (some ⟨tb, t0, none⟩) (ns 0) tc) ∧ ∀ i, i < ns 0 → ∃ rb ro rc, W'.cell? ⟨tb, t0 + i, none⟩ = some (.slice (some ⟨rb, ro, none⟩) (ns 0) rc) ∧ RowAt W' rb ro (ns 0) (fun k => ((nQ P t i k : Nat) : Int))) := fun t ht => by
    obtain ⟨sb, so, rfl, hst⟩ := hS.at ht
    obtain ⟨h1, h2⟩ := hst t ht
    rw [hOK.hR t ht] at h2
    obtain ⟨tb, t0, tc, h3, h4⟩ := tab_of h2 hOK.n0
    refine ⟨sb, so, tb, t0, tc, rfl, fun W' hb => ⟨by rw [(HEND.out W' hb).cell (cell_lt h1), h1, h3], fun i hi => ?_⟩⟩
    obtain ⟨h5, h6⟩ := h4 i hi
    rw [hOK.hrn t i ht hi] at h6
    obtain ⟨rb, ro, rc, h7, h8⟩ := row_of h6 hOK.n0
    refine ⟨rb, ro, rc, by rw [(HEND.out W' hb).cell (cell_lt h5), h5, h7], fun k hk => ?_⟩
    have := h8.later (HEND.out W' hb) k hk
    rw [hOK.q_cast ht hi hk] at this
    exact this
  have HE : Hid (∀ W', Below w1.heap.size w1 W' → Errs W' a) := fun W' hb => (hE.below hb1).below hb
  have HOK := Hid.mk' hOK
  have hn0 := hOK.n0
  have hn4 := hOK.n4
  have hTI : (T : Int) ≤ 4 := by omega
  have hLI : (L : Int) ≤ 5 := by omega
  have hL0 : (0 : Int) < (L : Int) := by omega
  have HPZ := Hid.mk' hz
  have hLa : T + 1 ≤ L := by omega
  have hLb : L ≤ T + 1 := by omega
  clear hE h hS hb1 hw1 hsz hns hL hT hR c2 c3 c4 c5 hr hOK hz hL4
  generalize ns 0 = n at *
  obtain ⟨S, hSe⟩ : ∃ S, S = smU (nU W 0) n := ⟨_, rfl⟩
  have HSP : Hid (0 < S ∧ S ≤ 4000) := by rw [hSe]; exact HOK.out.s_bd (by omega)
  have HSE := Hid.mk' hSe
  rw [← hSe]
  clear hSe
  obtain ⟨rb, ro, rc, hrow⟩ := HWT.out 0 (by omega)
  have HR0 := Hid.mk' hrow
  clear hrow
  go_enter Tryd.func8, Tryd.ntmps8
  go_upto_region 1 with fail
  rw [← HW1.out]
  go_wp2_with fail
  refine HVA.out.mono ?_
  rintro e w2 ⟨x, rfl, hx, hb2⟩
  obtain rfl := hx.nil0 HPZ.out
  have HB2 := Hid.mk' hb2
  clear hx hb2 HVA c0 c1 HPZ
  obtain ⟨⟨c0, c1⟩, _⟩ := HC.out _ HB2.out
  obtain ⟨d0, d1⟩ := HR0.out _ HB2.out
  rw [Nat.add_zero] at d0
  have HSO := Hid.mk' (start_any n rb ro rc (nU W 0) w2 d1 hn0 hn4 (fun i hi => by have := (HOK.out.u_bd (t := 0) (by omega) hi).2; omega))
  clear d1 HR0
  go_wp2_with fail
  refine HSO.out.mono ?_
  rintro e w3 ⟨g1, y, rfl, ⟨F1, hN1⟩, hy, hge, hb3⟩
  obtain ⟨ya, yl, yc, rfl⟩ := hy.isSlice
  rw [← HSE.out] at hy
  have hgl : g1 < w3.heap.size := cell_lt (hN1.row.row 0 hn0)
  have HB3 := Hid.mk' (below_chain HB2.out hb3)
  have h9 : Below w3.heap.size w3 (w3.alloc (.cells #[.slice (some ⟨g1, 0, none⟩) n n, .slice ya yl yc] 65)) := (Below.refl _ _).alloc (Nat.le_refl _) _
  have HNO : Hid (NowS w1 (w3.alloc (.cells #[.slice (some ⟨g1, 0, none⟩) n n, .slice ya yl yc] 65)) w3.heap.size n S 0 (nU W 0) g1 (.slice ya yl yc) S F1 (nU W 0)) := ⟨below_chain HB3.out h9, HB3.out.size, by omega, by simp, by simp, by simp, by simp, hy.later h9, hN1.later h9, fun i _ => rfl, HSP.out.1, Nat.le_trans HSP.out.2 (by decide)⟩
  obtain ⟨B, hB⟩ : ∃ B, B = w3.heap.size := ⟨_, rfl⟩
  clear hN1 hy hge hb3 hgl h9 HSO c0 c1 d0 HB2
  go_upto_region 5 with fail
  rw [← hB] at HNO ⊢
  clear hB
  generalize w3.alloc (.cells #[.slice (some ⟨g1, 0, none⟩) n n, .slice ya yl yc] 65) = wc at *
  obtain ⟨⟨c0, c1⟩, _⟩ := HC.out _ HNO.out.below
  go_wp2_with fail
  clear c0 c1
  go_loopw [24] (fun t wr => ∃ (t' g1 : Nat) (ya : Option Addr) (yl yc E : Nat) (F1 : Nat → Value) (X : Nat → Nat), t' ≤ T ∧ t = .int .i64 t' ∧ Hid (NowS w1 wr B n S t' (nU W t') g1 (.slice ya yl yc) E F1 X)) (fun t _ => T - (intOf t).toNat)
  case atStart => exact ⟨0, g1, ya, yl, yc, S, F1, nU W 0, Nat.zero_le _, rfl, HNO⟩
  case round =>
    clear HNO
    obtain ⟨t, g1, ya, yl, yc, E, F1, X, ht, rfl, HNO⟩ := hrel
    rcases Nat.lt_or_ge t T with h1 | h1
    · have htI : (t : Int) < (T : Int) := by omega
      have ht0 : (0 : Int) ≤ (t : Int) := by omega
      have htL : (t : Int) < (L : Int) := by omega
      have htL1 : (t : Int) + 1 < (L : Int) := by omega
      have htw : IntKind.i64.wrap ((t : Int) + 1) = (t : Int) + 1 := by rw [IntKind.wrap_i64]; omega
      have htp : (0 : Int) ≤ (t : Int) + 1 := by omega
      have htn : ((t : Int) + 1).toNat = t + 1 := by omega
      obtain ⟨rb, ro, rc, hro⟩ := HWT.out t (by omega)
      obtain ⟨qb, qo, qc, hqo⟩ := HWT.out (t + 1) (by omega)
      obtain ⟨sb, so, tb, t0, tc, rfl, hto⟩ := HST.out t h1
      have HRO := Hid.mk' hro
      have HQO := Hid.mk' hqo
      have HTO := Hid.mk' hto
      clear hro hqo hto
      have HSM := Hid.mk' (round_sml (v := nU W (t + 1)) (q := nQ P t) (R := fun i => smU (nQ P t i) n) HNO.out.car HSP.out.1 hn4 (by omega) HNO.out.bd (fun i hi => by have := (HOK.out.u_bd (t := t) (by omega) hi).2; omega) (fun i hi => by have := (HOK.out.u_bd (t := t + 1) (by omega) hi).2; omega) (fun i hi => (HOK.out.r_bd h1 hi).2) (fun i k hi hk => HOK.out.q_bd h1 hi hk))
      have HBW : Hid (∀ W, Below wr.heap.size wr W → Below w1.heap.size w1 W) := fun W hb => (HNO.out.later hb).below
      have HGA : Hid (∀ W', Below wr.heap.size wr W' → Calls Tryd.prog 24 #[.agg #[.slice (some ⟨g1, 0, none⟩) n n, .slice ya yl yc], .slice (some ⟨rb, ro, none⟩) n rc, .slice (some ⟨qb, qo, none⟩) n qc] W' fun e w' => ∃ g' y, e = .returned (.agg #[.slice (some ⟨g', 0, none⟩) n n, y]) ∧ (∃ F', NtsAt w' g' n F' (fun i => X i * prdX (nU W t) i n * nU W (t + 1) i)) ∧ NatAt w' y (E * prdU (nU W t) n) ∧ W'.heap.size ≤ g' ∧ Below W'.heap.size W' w') := fun W' hb => gain_any n g1 F1 X _ E rb ro rc (nU W t) qb qo qc (nU W (t + 1)) W' (HNO.out.later hb).nts (HNO.out.later hb).nd (HRO.out W' (HBW.out W' hb)).2 (HQO.out W' (HBW.out W' hb)).2 hn0 hn4 (fun i hi => by have := (HOK.out.u_bd (t := t) (by omega) hi).2; omega) (fun i hi => by have := (HOK.out.u_bd (t := t + 1) (by omega) hi).2; omega) HSM.out.1 HSM.out.2.1
      have HSG : Hid (∀ W' g' F' y, Below wr.heap.size wr W' → NtsAt W' g' n F' (fun i => X i * prdX (nU W t) i n * nU W (t + 1) i) → NatAt W' y (E * prdU (nU W t) n) → Calls Tryd.prog 25 #[.agg #[.slice (some ⟨g', 0, none⟩) n n, y], .slice (some ⟨tb, t0, none⟩) n tc] W' fun e w' => ∃ g' y, e = .returned (.agg #[.slice (some ⟨g', 0, none⟩) n n, y]) ∧ (∃ F', NtsAt w' g' n F' (fun k => smU (fun j => X j * prdX (nU W t) j n * nU W (t + 1) j * prdX (fun i => smU (nQ P t i) n) j n * nQ P t j k) n)) ∧ NatAt w' y (E * prdU (nU W t) n * prdU (fun i => smU (nQ P t i) n) n) ∧ W'.heap.size ≤ g' ∧ Below W'.heap.size W' w') := fun W' g' F' y hb hN hD => step_any n g' F' _ y _ tb t0 tc (nQ P t) (fun i => smU (nQ P t i) n) W' hN hD (HTO.out W' (HBW.out W' hb)).2 (fun _ _ => rfl) hn0 hn4 (fun i hi => (HOK.out.r_bd h1 hi).2) HSM.out.2.2.1 HSM.out.2.2.2.1 HSM.out.2.2.2.2.1
      have HKS : Hid (∀ W, Below wr.heap.size wr W → W.cell? ⟨B, 0, none⟩ = some (.slice (some ⟨g1, 0, none⟩) n n) ∧ W.cell? ⟨B, 1, none⟩ = some (.slice ya yl yc) ∧ W.cell? ⟨w.heap.size, 0, none⟩ = some (.slice (some ⟨b, o, none⟩) L cap) ∧ W.cell? ⟨w.heap.size, 1, none⟩ = some (.slice (some ⟨sb, so, none⟩) T sc) ∧ W.cell? ⟨b, o + t, none⟩ = some (.slice (some ⟨rb, ro, none⟩) n rc) ∧ W.cell? ⟨b, o + (t + 1), none⟩ = some (.slice (some ⟨qb, qo, none⟩) n qc) ∧ W.cell? ⟨sb, so + t, none⟩ = some (.slice (some ⟨tb, t0, none⟩) n tc)) := fun W hb => ⟨(HNO.out.later hb).c0, (HNO.out.later hb).c1, (HC.out W (HBW.out W hb)).1.1, (HC.out W (HBW.out W hb)).1.2, (HRO.out W (HBW.out W hb)).1, (HQO.out W (HBW.out W hb)).1, (HTO.out W (HBW.out W hb)).1⟩
      have hcur : Below wr.heap.size wr wr.drew := (Below.refl _ _).drew
      have HCN : Hid (Car n S (nU W (t + 1)) (fun k => smU (fun j => X j * prdX (nU W t) j n * nU W (t + 1) j * prdX (fun i => smU (nQ P t i) n) j n * nQ P t j k) n) (E * prdU (nU W t) n * prdU (fun i => smU (nQ P t i) n) n)) := car_step (car_gain HNO.out.car) (HOK.out.balN h1) (fun k hk => (HOK.out.r_bd h1 hk).1)
      have HPN : Hid (0 < E * prdU (nU W t) n * prdU (fun i => smU (nQ P t i) n) n) := Nat.mul_pos (Nat.mul_pos HNO.out.pos (prdU_pos (fun i hi => (HOK.out.u_bd (t := t) (by omega) hi).1))) (prdU_pos (fun i hi => (HOK.out.r_bd h1 hi).1))
      go_upto_region 8 with fail
      refine region_but_last (n := 19) (S := fun W => W.cell? ⟨B, 0, none⟩ = some (.slice (some ⟨g1, 0, none⟩) n n) ∧ W.cell? ⟨B, 1, none⟩ = some (.slice ya yl yc) ∧ W.cell? ⟨w.heap.size, 0, none⟩ = some (.slice (some ⟨b, o, none⟩) L cap) ∧ W.cell? ⟨w.heap.size, 1, none⟩ = some (.slice (some ⟨sb, so, none⟩) T sc) ∧ W.cell? ⟨b, o + t, none⟩ = some (.slice (some ⟨rb, ro, none⟩) n rc) ∧ W.cell? ⟨b, o + (t + 1), none⟩ = some (.slice (some ⟨qb, qo, none⟩) n qc) ∧ W.cell? ⟨sb, so + t, none⟩ = some (.slice (some ⟨tb, t0, none⟩) n tc)) (by kernel_rfl) (by kernel_rfl) (by kernel_rfl) (HKS.out _ hcur) (fun hHeld => ?_)
      refine wpAnyH_take (i := 0) (v := ?v0c) rfl (by kernel_rfl) (by kernel_rfl) (by kernel_rfl) (fun _ _ _ h => h) (Or.inl ⟨by rfl, ?hy0c⟩) (by assumption) ?rest0c
      case hy0c => (intro w hSw; (try dsimp only at hSw); go_simp <;> (try with_reducible rfl))
      simp only [Act.put]
      refine wpAnyH_take (i := 1) (v := ?v1c) rfl (by kernel_rfl) (by kernel_rfl) (by kernel_rfl) (fun _ _ _ h => h) (Or.inl ⟨by rfl, ?hy1c⟩) (by assumption) ?rest1c
      case hy1c => (intro w hSw; (try dsimp only at hSw); go_simp <;> (try with_reducible rfl))
      simp only [Act.put]
      refine wpAnyH_take (i := 2) (v := ?v2c) rfl (by kernel_rfl) (by kernel_rfl) (by kernel_rfl) (fun _ _ _ h => h) (Or.inl ⟨by rfl, ?hy2c⟩) (by assumption) ?rest2c
      case hy2c => (intro w hSw; (try dsimp only at hSw); go_simp <;> (try with_reducible rfl))
      simp only [Act.put]
      refine wpAnyH_take (i := 3) (v := ?v3c) rfl (by kernel_rfl) (by kernel_rfl) (by kernel_rfl) (fun _ _ _ h => h) (Or.inl ⟨by rfl, ?hy3c⟩) (by assumption) ?rest3c
      case hy3c => (intro w hSw; (try dsimp only at hSw); go_simp <;> (try with_reducible rfl))
      simp only [Act.put]
      refine wpAnyH_take (i := 4) (v := ?v4c) rfl (by kernel_rfl) (by kernel_rfl) (by kernel_rfl) (fun _ _ _ h => h) (Or.inl ⟨by rfl, ?hy4c⟩) (by assumption) ?rest4c
      case hy4c => (intro w hSw; (try dsimp only at hSw); go_simp <;> (try with_reducible rfl))
      simp only [Act.put]
      refine wpAnyH_take (i := 5) (v := ?v5c) rfl (by kernel_rfl) (by kernel_rfl) (by kernel_rfl) (fun _ _ _ h => h) (Or.inl ⟨by rfl, ?hy5c⟩) (by assumption) ?rest5c
      case hy5c => (intro w hSw; (try dsimp only at hSw); go_simp <;> (try with_reducible rfl))
      simp only [Act.put]
      refine wpAnyH_take (i := 6) (v := ?v6c) rfl (by kernel_rfl) (by kernel_rfl) (by kernel_rfl) (fun _ _ _ h => h) (Or.inl ⟨by rfl, ?hy6c⟩) (by assumption) ?rest6c
      case hy6c => (intro w hSw; (try dsimp only at hSw); go_simp <;> (try with_reducible rfl))
      simp only [Act.put]
      refine wpAnyH_take (i := 7) (v := ?v7c) rfl (by kernel_rfl) (by kernel_rfl) (by kernel_rfl) (fun _ _ _ h => h) (Or.inl ⟨by rfl, ?hy7c⟩) (by assumption) ?rest7c
      case hy7c => (intro w hSw; (try dsimp only at hSw); go_simp <;> (try with_reducible rfl))
      simp only [Act.put]
      refine wpAnyH_take (i := 8) (v := ?v8c) rfl (by kernel_rfl) (by kernel_rfl) (by kernel_rfl) (fun _ _ _ h => h) (Or.inl ⟨by rfl, ?hy8c⟩) (by assumption) ?rest8c
      case hy8c => (intro w hSw; (try dsimp only at hSw); go_simp <;> (try with_reducible rfl))
      simp only [Act.put]
      refine wpAnyH_take (i := 9) (v := ?v9c) rfl (by kernel_rfl) (by kernel_rfl) (by kernel_rfl) (fun _ _ _ h => h) (Or.inl ⟨by rfl, ?hy9c⟩) (by assumption) ?rest9c
      case hy9c => (intro w hSw; (try dsimp only at hSw); go_simp <;> (try with_reducible rfl))
      simp only [Act.put]
      refine wpAnyH_take (i := 10) (v := ?v10c) rfl (by kernel_rfl) (by kernel_rfl) (by kernel_rfl) (fun _ _ _ h => h) (Or.inl ⟨by rfl, ?hy10c⟩) (by assumption) ?rest10c
      case hy10c => (intro w hSw; (try dsimp only at hSw); go_simp <;> (try with_reducible rfl))
      simp only [Act.put]
      refine wpAnyH_take (i := 11) (v := ?v11c) rfl (by kernel_rfl) (by kernel_rfl) (by kernel_rfl) (fun _ _ _ h => h) (Or.inl ⟨by rfl, ?hy11c⟩) (by assumption) ?rest11c
      case hy11c => (intro w hSw; (try dsimp only at hSw); go_simp <;> (try with_reducible rfl))
      simp only [Act.put]
      refine wpAnyH_take (i := 13) (v := ?v13c) rfl (by kernel_rfl) (by kernel_rfl) (by kernel_rfl) (fun _ _ _ h => h) (Or.inl ⟨by rfl, ?hy13c⟩) (by assumption) ?rest13c
      case hy13c => (intro w hSw; (try dsimp only at hSw); go_simp <;> (try with_reducible rfl))
      simp only [Act.put]
      refine wpAnyH_take (i := 14) (v := ?v14c) rfl (by kernel_rfl) (by kernel_rfl) (by kernel_rfl) (fun _ _ _ h => h) (Or.inl ⟨by rfl, ?hy14c⟩) (by assumption) ?rest14c
      case hy14c => (intro w hSw; (try dsimp only at hSw); go_simp <;> (try with_reducible rfl))
      simp only [Act.put]
      refine wpAnyH_take (i := 15) (v := ?v15c) rfl (by kernel_rfl) (by kernel_rfl) (by kernel_rfl) (fun _ _ _ h => h) (Or.inl ⟨by rfl, ?hy15c⟩) (by assumption) ?rest15c
      case hy15c => (intro w hSw; (try dsimp only at hSw); go_simp <;> (try with_reducible rfl))
      simp only [Act.put]
      refine wpAnyH_take (i := 16) (v := ?v16c) rfl (by kernel_rfl) (by kernel_rfl) (by kernel_rfl) (fun _ _ _ h => h) (Or.inl ⟨by rfl, ?hy16c⟩) (by assumption) ?rest16c
      case hy16c => (intro w hSw; (try dsimp only at hSw); go_simp <;> (try with_reducible rfl))
      simp only [Act.put]
      refine wpAnyH_take (i := 17) (v := ?v17c) rfl (by kernel_rfl) (by kernel_rfl) (by kernel_rfl) (fun _ _ _ h => h) (Or.inl ⟨by rfl, ?hy17c⟩) (by assumption) ?rest17c
      case hy17c => (intro w hSw; (try dsimp only at hSw); go_simp <;> (try with_reducible rfl))
      simp only [Act.put]
      refine wpAnyH_ready (rs := [12]) (by kernel_rfl) (by simp) ?_
      refine AllReadyH.cons rfl (fun K hK => ?_) AllReadyH.nil
      go_simp
      refine (HGA.out _ hcur).mono ?_
      rintro e w5 ⟨g2, y2, rfl, ⟨F2, hN2⟩, hy2, hge2, hb5⟩
      obtain ⟨za, zl, zc, rfl⟩ := hy2.isSlice
      have hcur := below_chain hcur hb5
      have HN2 := Hid.mk' hN2
      have HY2 := Hid.mk' hy2
      clear hN2 hy2 hge2 hb5
      go_wp2_with fail
      refine hK.out _ _ ?_ (fun hHeld => ?_)
      · exact HKS.out _ hcur
      clear hK K
      refine wpAnyH_ready (rs := [18]) (by kernel_rfl) (by simp) ?_
      refine AllReadyH.cons rfl (fun K hK => ?_) AllReadyH.nil
      go_simp
      refine (HSG.out _ _ _ _ hcur HN2.out HY2.out).mono ?_
      rintro e w6 ⟨g3, y3, rfl, ⟨F3, hN3⟩, hy3, hge3, hb6⟩
      obtain ⟨ua, ul, uc, rfl⟩ := hy3.isSlice
      have hBl : B < w5.heap.size := Nat.lt_of_lt_of_le (cell_lt HNO.out.c0) hcur.size
      have hcur := below_chain hcur hb6
      have HO9 := Hid.mk' ((HNO.out.later hcur).put (t' := t + 1) (u' := nU W (t + 1)) (g' := g3) (by omega) hN3 hy3 HCN.out HPN.out HSM.out.2.2.2.2.2)
      have z0 := (HNO.out.later hcur).c0
      have z1 := (HNO.out.later hcur).c1
      have z2 := (HNO.out.later hcur).f0
      have z3 := (HNO.out.later hcur).f1
      obtain ⟨z4, z5, z6⟩ := put_two (.slice (some ⟨g3, 0, none⟩) n n) (.slice ua ul uc) z0 z1
      clear hN3 hy3 hge3 hb6 hBl
      go_wp2_with fail
      refine hK.out _ _ ?_ (fun hHeld => ?_)
      · exact HKS.out _ hcur
      clear hK K
      refine wpAnyH_done (by kernel_rfl) ?_ _
      refine ahead_last rfl (fun K hK => ?_)
      go_simp
      refine hK _ _ ?_
      clear hK K
      clear HGA HSG HKS z0 z1 z2 z3 z4 z5 z6 hHeld HNO hcur HCN HPN HN2 HY2 HSM HBW
      go_wp2_with fail
      exact ⟨⟨t + 1, g3, ua, ul, uc, _, F3, _, h1, by go_num, HO9⟩, by simp [intOf]; omega⟩
    · obtain rfl : t = T := by omega
      have htI : ¬ ((t : Int) < (t : Int)) := by omega
      have HES := Hid.mk' (end_sml HNO.out.car HSP.out.1 hn4 (Nat.le_trans HNO.out.bd (bdT_le (by omega))) (fun i hi => by have := (HOK.out.u_bd (t := t) (by omega) hi).2; omega))
      have HTS : Hid (toldV a (smU X n) E = toldV a (smU (nU W t) n) S) := (told_same (a := a) HNO.out.pos HSP.out.1 (car_sum HNO.out.car)).2.2
      have HTV : Hid (toldV a (smU (nU W t) n) S = .tuple #[.agg #[.int .i64 ((smU (nU W t) n / Nat.gcd (smU (nU W t) n) S : Nat) : Int), .int .i64 ((S / Nat.gcd (smU (nU W t) n) S : Nat) : Int)], .nilIface]) := by
        have hs1 := (HOK.out.s_bd (t := t) (by omega)).2
        have hs2 := HSP.out.2
        have hs3 := Nat.div_le_self (smU (nU W t) n) (Nat.gcd (smU (nU W t) n) S)
        have hs4 := Nat.div_le_self S (Nat.gcd (smU (nU W t) n) S)
        exact if_pos ⟨by omega, by omega⟩
      obtain ⟨W4, hW4⟩ : ∃ W4, W4 = wr := ⟨_, rfl⟩
      rw [← hW4] at HNO ⊢
      clear hW4
      go_wp2_with fail
      refine (NatOf_zeroH _).mono ?_
      rintro e w9 ⟨rfl, hw9⟩
      rw [hw9]
      clear hw9
      have k0 := HNO.out.c0
      go_wp2_with fail
      clear k0
      go_loopw [7, 51] (fun s i wr => ∃ (k : Nat) (pa : Option Addr) (pl pc : Nat), k ≤ n ∧ s = .slice pa pl pc ∧ i = .int .i64 k ∧ Hid (NatAt wr (.slice pa pl pc) (smU X k)) ∧ Hid (Below W4.heap.size W4 wr)) (fun _ i _ => n - (intOf i).toNat)
      case atStart => exact ⟨0, _, _, _, Nat.zero_le _, rfl, rfl, natAt_nilH _, Below.refl _ _⟩
      case round =>
        obtain ⟨k, pa, pl, pc, hk, rfl, rfl, HS, HB⟩ := hrel
        rcases Nat.lt_or_ge k n with h2 | h2
        · have hkI : (k : Int) < (n : Int) := by omega
          have hk0 : (0 : Int) ≤ (k : Int) := by omega
          have hnI : (n : Int) ≤ 4 := by omega
          have k1 := (HNO.out.later HB.out).nts.row.row k h2
          obtain ⟨fa, fl, fc, hfe⟩ := (HNO.out.nts.nat k h2).isSlice
          have HPL := Hid.mk' (Plus_any (.slice pa pl pc) (F1 k) (smU X k) (X k) 12 wr HS.out ((HNO.out.later HB.out).nts.nat k h2) (HES.out.2.1 k hk) (HES.out.2.2 k h2) (by decide))
          rw [hfe] at k1 HPL
          clear hfe
          go_wp2_with fail
          refine HPL.out.mono ?_
          rintro e w5 ⟨r, rfl, hr5, hb5⟩
          obtain ⟨ra, rl, rc', rfl⟩ := hr5.isSlice
          have HR5 : Hid (NatAt w5 (.slice ra rl rc') (smU X (k + 1))) := hr5
          have HB5 := Hid.mk' (below_chain HB.out hb5)
          clear hr5 hb5 HPL k1
          go_wp2_with fail
          exact ⟨⟨k + 1, ra, rl, rc', h2, rfl, by go_num, HR5, HB5⟩, by simp [intOf]; omega⟩
        · obtain rfl : k = n := by omega
          have hkI : ¬ ((k : Int) < (k : Int)) := by omega
          have HNL := Hid.mk' (HNO.out.later HB.out)
          have k1 := HNL.out.c1
          have HTD := Hid.mk' (Told_any a (.slice pa pl pc) (.slice ya yl yc) (smU X k) E 12 wr (HE.out wr HNL.out.below) HS.out HNL.out.nd HNL.out.pos (HES.out.2.1 k (Nat.le_refl _)) HES.out.1 (by decide))
          rw [HTS.out, HTV.out] at HTD
          obtain ⟨NN, hNN⟩ : ∃ NN : Int, NN = ((smU (nU W t) k / Nat.gcd (smU (nU W t) k) S : Nat) : Int) := ⟨_, rfl⟩
          obtain ⟨DD, hDD⟩ : ∃ DD : Int, DD = ((S / Nat.gcd (smU (nU W t) k) S : Nat) : Int) := ⟨_, rfl⟩
          rw [← hNN, ← hDD] at HTD
          have HNN := Hid.mk' hNN
          have HDD := Hid.mk' hDD
          clear hNN hDD
          go_wp2_with fail
          refine HTD.out.mono ?_
          rintro e w5 ⟨rfl, hb5⟩
          have HB5 := Hid.mk' (below_chain HNL.out.below hb5)
          clear hb5 HTD k1
          obtain ⟨_, ⟨d2, d3⟩, d4, d5⟩ := HC.out _ HB5.out
          have HBE : Hid (Below w.heap.size w ((w5.setCell ⟨w.heap.size + 1, 0, none⟩ (.int .i64 NN)).setCell ⟨w.heap.size + 1, 1, none⟩ (.int .i64 DD))) := ((HEND.out _ HB5.out).setCell (by simp) _).setCell (by simp) _
          have HG := Hid.mk' (put_two (.int .i64 NN) (.int .i64 DD) d2 d3)
          obtain ⟨q0, _, _⟩ := HG.out
          go_wp2_with fail
          generalize (w5.setCell ⟨w.heap.size + 1, 0, none⟩ (.int .i64 NN)).setCell ⟨w.heap.size + 1, 1, none⟩ (.int .i64 DD) = W9 at *
          exact bodyPost_ret (v := .tuple #[.agg #[.int .i64 NN, .int .i64 DD], .nilIface]) (by simp [results, Tryd.results8, go_sem, HG.out.2.1, HG.out.2.2]) rfl ⟨by rw [HNN.out, HDD.out], HBE.out⟩
end Go.Proofs.YthomgmhmbalnbaaDoor
