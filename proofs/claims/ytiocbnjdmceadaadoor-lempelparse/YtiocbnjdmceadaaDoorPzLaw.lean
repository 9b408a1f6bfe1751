/- The law LempelParse. -/
import Derived.Test.YtiocbnjdmceadaaDoorParseD
import Derived.Test.YtiocbnjdmceadaaDoorAbP
import Derived.Test.YtiocbnjdmceadaaDoorCodedV
namespace Go.Proofs.YtiocbnjdmceadaaDoor
open Go.RowKit

/-- Phrases in memory, of whichever of the two types. -/
def PhrAt (w : World) (v : Value) (l : List Phr) : Prop := ∃ ad cap, v = .slice ad l.length cap ∧ ∀ i c, l[i]? = some c → ∃ b o, ad = some ⟨b, o, none⟩ ∧ w.cell? ⟨b, o + i * 3, none⟩ = some (.int .i64 (c.of : Int)) ∧ w.cell? ⟨b, o + i * 3 + 1, none⟩ = some (.int .u8 (c.next : Int)) ∧ w.cell? ⟨b, o + i * 3 + 2, none⟩ = some (.bool c.last)
theorem phrsC_at : ∀ (l : List Phr) (i : Nat) (c : Phr), l[i]? = some c → (phrsC l)[i * 3]? = some (.int .i64 (c.of : Int)) ∧ (phrsC l)[i * 3 + 1]? = some (.int .u8 (c.next : Int)) ∧ (phrsC l)[i * 3 + 2]? = some (.bool c.last)
  | [], i, c, h => by simp at h
  | d :: r, 0, c, h => by
    obtain rfl : d = c := by simpa using h
    exact ⟨rfl, rfl, rfl⟩
  | d :: r, i + 1, c, h => by
    obtain ⟨h0, h1, h2⟩ := phrsC_at r i c (by simpa using h)
    have e : ∀ k, (phrsC (d :: r))[(i + 1) * 3 + k]? = (phrsC r)[i * 3 + k]? := fun k => by
      show (phrC d ++ phrsC r)[(i + 1) * 3 + k]? = _
      rw [List.getElem?_append_right (by show 3 ≤ _; omega)]
      congr 1
      show (i + 1) * 3 + k - 3 = _
      omega
    exact ⟨by have := e 0; simp only [Nat.add_zero] at this; rw [this]; exact h0, by rw [e 1]; exact h1, by rw [e 2]; exact h2⟩
theorem phrAt_row {w : World} {base : Nat} {t : TypeId} {v : Value} {l : List Phr} (h : w.ownsRow base t 3 v l.length (phrsC l)) : PhrAt w v l := by
  rcases h.2 with ⟨rfl, hn⟩ | ⟨g, cap, cur, rfl, _⟩
  · obtain rfl : l = [] := List.eq_nil_of_length_eq_zero hn
    exact ⟨_, _, rfl, fun i c hc => by simp at hc⟩
  · refine ⟨_, _, rfl, fun i c hc => ⟨g, 0, rfl, ?_⟩⟩
    have hi : i < l.length := by
      rcases Nat.lt_or_ge i l.length with h' | h'
      · exact h'
      · rw [List.getElem?_eq_none h'] at hc; cases hc
    obtain ⟨h0, h1, h2⟩ := phrsC_at l i c hc
    have e : ∀ j, j < l.length * 3 → w.cell? ⟨g, j, none⟩ = (phrsC l)[j]? := fun j hj => h.cellAt j hj
    rw [Nat.zero_add]
    refine ⟨?_, ?_, ?_⟩
    · rw [e _ (by omega)]; exact h0
    · rw [e _ (by omega)]; exact h1
    · rw [e _ (by omega)]; exact h2
theorem PhrAt.later {w w' : World} {v : Value} {l : List Phr} (h : PhrAt w v l) (hb : Below w.heap.size w w') : PhrAt w' v l := by
  obtain ⟨ad, cap, hv, hc⟩ := h
  refine ⟨ad, cap, hv, fun i c hi => ?_⟩
  obtain ⟨b, o, ha, h0, h1, h2⟩ := hc i c hi
  refine ⟨b, o, ha, ?_, ?_, ?_⟩
  · rw [hb.cell (cell_lt h0)]; exact h0
  · rw [hb.cell (cell_lt h1)]; exact h1
  · rw [hb.cell (cell_lt h2)]; exact h2
theorem pzL_len (l : List UInt8) : (pzL l).length ≤ l.length + 1 := by
  have h := (pz_le l ([], 0) (Nat.le_refl _)).2
  unfold pzL pzO
  split
  · rw [phrs_length]; simp at h; omega
  · rw [List.length_append, phrs_length]; simp at h ⊢; omega

set_option maxRecDepth 100000 in
theorem Parse_bad (a : Nat → Addr) (T : ByteArray) (w : World) (hE : Errs w a) (hT : T.size ≤ maxLen) (h : 4000 < T.size) :
    Calls Tryd.prog 9 #[.string T] w fun e w' => e = .returned (.tuple #[.slice none 0 0, errV a 2]) ∧ Below w.heap.size w w' := by
  have e1 := hE.c1
  rw [errV_two]
  unfold maxLen at hT
  clear hE
  have h1I : (4000 : Int) < (T.size : Int) := by omega
  go_enter Tryd.func9, Tryd.ntmps9
  go_wp2_with fail
  go_quiet (fail)
  go_wp2_with fail
  go_ret2
  exact ⟨rfl, below_drewN (Below.refl _ _) _⟩

set_option maxRecDepth 100000 in
set_option maxHeartbeats 4000000 in
theorem LempelParse_all (a : Nat → Addr) (T : ByteArray) (w : World) (hE : Errs w a) (hT : T.size ≤ maxLen) :
    Calls Tryd.prog 3 #[.string T] w fun e w' => e = .returned (.bool true) ∧ Below w.heap.size w w' := by
  have hA := abab_any w
  have HE := Hid.mk' hE
  have HM := Hid.mk' hT
  unfold maxLen at hT
  clear hE
  by_cases hb : 300 < T.size ∧ T.size ≤ 4000
  · have h1 : (300 : Int) < (T.size : Int) := by omega
    have h2 : (T.size : Int) ≤ 4000 := by omega
    clear hb
    go_enter Tryd.func3, Tryd.ntmps3
    go_wp2_with fail
    refine hA.mono ?_
    rintro e w1 ⟨rfl, hb1⟩
    have HB1 := Hid.mk' hb1
    clear hb1 hA
    go_wp2_with fail
    go_ret
    exact ⟨rfl, HB1.out⟩
  · by_cases hc : 4000 < T.size
    · have HS : Hid (∀ W, Below w.heap.size w W → Calls Tryd.prog 9 #[.string T] W fun e w' => e = .returned (.tuple #[.slice none 0 0, errV a 2]) ∧ Below W.heap.size W w') := fun W hW => Parse_bad a T W (HE.out.below hW) HM.out hc
      have HCD : Hid (∀ W, Below w.heap.size w W → Calls Tryd.prog 10 #[errV a 2, .int .i64 2] W fun e w' => e = .returned (.bool true) ∧ Below W.heap.size W w') := fun W hW => coded_errV a 2 (by decide) W (HE.out.below hW)
      have h1 : (300 : Int) < (T.size : Int) := by omega
      have h2 : ¬ (T.size : Int) ≤ 4000 := by omega
      have h3 : (4000 : Int) < (T.size : Int) := by omega
      clear hb hc
      generalize errV a 2 = ev at *
      go_enter Tryd.func3, Tryd.ntmps3
      go_wp2_with fail
      refine hA.mono ?_
      rintro e w1 ⟨rfl, hb1⟩
      have HB1 := Hid.mk' hb1
      clear hb1 hA
      go_wp2_with fail
      refine (HS.out w1 HB1.out).mono ?_
      rintro e w2 ⟨rfl, hb2⟩
      have HB2 := Hid.mk' (below_chain HB1.out hb2)
      clear hb2
      go_wp2_with fail
      refine (HCD.out w2 HB2.out).mono ?_
      rintro e w3 ⟨rfl, hb3⟩
      have HB3 := Hid.mk' (below_chain HB2.out hb3)
      clear hb3
      go_wp2_with fail
      go_ret
      exact ⟨rfl, HB3.out⟩
    · have hs : T.size ≤ 300 := by omega
      have HS : Hid (∀ W, Calls Tryd.prog 9 #[.string T] W fun e w' => ∃ v, e = .returned (.tuple #[v, .nilIface]) ∧ PhrAt w' v (pzL T.data.toList) ∧ Below W.heap.size W w') := fun W => (Parse_ok T W (by omega)).mono fun e w' ⟨v, he, hr, hb⟩ => ⟨v, he, phrAt_row hr, hb⟩
      have HD : Hid (∀ W, Calls Tryd.prog 11 #[.string T] W fun e w' => ∃ v, e = .returned v ∧ PhrAt w' v (pzL T.data.toList) ∧ Below W.heap.size W w') := fun W => (ParseOf_any T W (by omega)).mono fun e w' ⟨v, he, hr, hb⟩ => ⟨v, he, phrAt_row hr, hb⟩
      have HLN : Hid ((pzL T.data.toList).length ≤ 100000) := Nat.le_trans (pzL_len _) (by rw [size_lst]; omega)
      have h1 : ¬ (300 : Int) < (T.size : Int) := by omega
      have h2 : ¬ (4000 : Int) < (T.size : Int) := by omega
      clear hb hc
      generalize pzL T.data.toList = l at *
      go_enter Tryd.func3, Tryd.ntmps3
      go_wp2_with fail
      refine hA.mono ?_
      rintro e w1 ⟨rfl, hb1⟩
      have HB1 := Hid.mk' hb1
      clear hb1 hA
      go_wp2_with fail
      refine (HS.out w1).mono ?_
      rintro e w2 ⟨v, rfl, hl2, hb2⟩
      have HB2 := Hid.mk' (below_chain HB1.out hb2)
      have HL2 := Hid.mk' hl2
      obtain ⟨ad, cap, rfl, hcl⟩ := hl2
      clear hb2 hcl
      go_wp2_with fail
      refine (HD.out w2).mono ?_
      rintro e w3 ⟨v3, rfl, hl3, hb3⟩
      have HB3 := Hid.mk' (below_chain HB2.out hb3)
      have HL3 := Hid.mk' (HL2.out.later hb3)
      have HD3 := Hid.mk' hl3
      obtain ⟨ad3, cap3, rfl, hcl⟩ := hl3
      clear hb3 hcl HL2
      have hln := HLN.out
      go_wp2_with fail
      go_loopw [7] (fun t wr => ∃ k m : Nat, k ≤ l.length ∧ t = .int .i64 (k : Int) ∧ wr = w3.drewN m) (fun t _ => l.length - (intOf t).toNat)
      case atStart => exact ⟨0, 0, Nat.zero_le _, rfl, rfl⟩
      case round =>
        obtain ⟨k, m, hk, rfl, rfl⟩ := hrel
        rcases Nat.lt_or_ge k l.length with h5 | h5
        · have hkI : (k : Int) < (l.length : Int) := by omega
          have hk0 : (0 : Int) ≤ (k : Int) := by omega
          obtain ⟨_, _, e1, q1⟩ := HL3.out
          obtain ⟨rfl, rfl⟩ : ad = _ ∧ cap = _ := by simpa using e1
          obtain ⟨b, o, hbo, x0, x1, x2⟩ := q1 k _ (List.getElem?_eq_getElem h5)
          obtain ⟨_, _, e2, q2⟩ := HD3.out
          obtain ⟨rfl, rfl⟩ : ad3 = _ ∧ cap3 = _ := by simpa using e2
          obtain ⟨b', o', hbo', y0, y1, y2⟩ := q2 k _ (List.getElem?_eq_getElem h5)
          subst hbo
          subst hbo'
          clear q1 q2 e1 e2
          generalize l[k] = c at *
          go_wp2_with fail
          go_quiet (fail)
          go_wp2_with fail
          exact ⟨⟨k + 1, _, h5, by go_num, rfl⟩, by simp [intOf]; omega⟩
        · obtain rfl : k = l.length := by omega
          have hkI : ¬ (l.length : Int) < (l.length : Int) := by omega
          go_wp2_with fail
          go_ret
          exact ⟨rfl, below_drewN HB3.out _⟩
end Go.Proofs.YtiocbnjdmceadaaDoor
