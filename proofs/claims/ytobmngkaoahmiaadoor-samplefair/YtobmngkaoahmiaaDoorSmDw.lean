/- sample.Draw. -/
import Derived.Test.YtobmngkaoahmiaaDoorSmRd
import Derived.Test.YtobmngkaoahmiaaDoorSmLv
import Derived.Test.YtobmngkaoahmiaaDoorWordsD
namespace Go.Proofs.YtobmngkaoahmiaaDoor
open Go.RowKit

/-- What is wrong with weights and bits. -/
def dwE (z : Nat → Int) (n : Nat) (t : ByteArray) : Nat := if weightsErr z n = 0 then (if 4000 < t.size then 2 else if bitB t = true then 0 else 1) else weightsErr z n
theorem dwE_le (z : Nat → Int) (n : Nat) (t : ByteArray) : dwE z n t ≤ 8 := by
  have := weightsErr_le z n
  unfold dwE
  split
  · split
    · omega
    · split <;> omega
  · omega
theorem errV_1s (a : Nat → Addr) : errV a 1 = .iface 179 (.pointer (some (a 0))) := rfl
theorem errV_2s (a : Nat → Addr) : errV a 2 = .iface 179 (.pointer (some (a 1))) := rfl
theorem errV_6s (a : Nat → Addr) : errV a 6 = .iface 179 (.pointer (some (a 5))) := rfl
set_option maxRecDepth 100000 in
set_option maxHeartbeats 2000000 in
theorem drawError_any (a : Nat → Addr) (v : Value) (n : Nat) (z : Nat → Int) (t : ByteArray) (w : World) (hE : Errs w a) (h : NumsAt w v n z) (hn : n ≤ 1000000) (ht : t.size ≤ 9223372036854775807) :
    Calls Tryd.prog 37 #[v, .string t] w fun e w' => e = .returned (errV a (dwE z n t)) ∧ Below w.heap.size w w' := by
  have hV := Valid_weights a v n z w hE h hn
  obtain ⟨ad, cap, rfl⟩ := h.form
  have htI : (t.size : Int) ≤ 9223372036854775807 := by omega
  have c0 := hE.c0
  have c1 := hE.c1
  by_cases h0 : weightsErr z n = 0
  · rw [h0, errV_zero] at hV
    by_cases h4 : 4000 < t.size
    · have h4I : (4000 : Int) < (t.size : Int) := by omega
      rw [show dwE z n t = 2 by unfold dwE; rw [if_pos h0, if_pos h4], errV_2s]
      clear hE h
      go_enter Tryd.func37, Tryd.ntmps37
      go_wp2_with fail
      refine hV.mono ?_
      rintro e w2 ⟨rfl, hw2⟩
      rw [hw2]
      clear hw2 hV
      go_wp2_with fail
      go_ret
      exact ⟨rfl, Below.refl _ _⟩
    · have h4I : ¬ (4000 : Int) < (t.size : Int) := by omega
      by_cases hb : bitB t = true
      · rw [show dwE z n t = 0 by unfold dwE; rw [if_pos h0, if_neg h4, if_pos hb], errV_zero]
        have HT := Hid.mk' (trim_bits t w (by omega) hb)
        clear hE h
        go_enter Tryd.func37, Tryd.ntmps37
        go_wp2_with fail
        refine hV.mono ?_
        rintro e w2 ⟨rfl, hw2⟩
        rw [hw2]
        clear hw2 hV
        go_wp2_with fail
        refine HT.out.mono ?_
        rintro e w3 ⟨rfl, hb3⟩
        have HB3 := Hid.mk' hb3
        clear hb3 HT
        go_wp2_with fail
        go_ret
        exact ⟨rfl, HB3.out⟩
      · have hb' : bitB t = false := by simpa using hb
        rw [show dwE z n t = 1 by unfold dwE; rw [if_pos h0, if_neg h4, if_neg hb], errV_1s]
        have HT := Hid.mk' (trim_other t w (by omega) hb')
        have HE := Hid.mk' (fun (W : World) (hb : Below w.heap.size w W) => (hE.below hb).c0)
        clear hE h hb hb'
        go_enter Tryd.func37, Tryd.ntmps37
        go_wp2_with fail
        refine hV.mono ?_
        rintro e w2 ⟨rfl, hw2⟩
        rw [hw2]
        clear hw2 hV
        go_wp2_with fail
        refine HT.out.mono ?_
        rintro e w3 ⟨u, rfl, hu, hb3⟩
        have g0 := HE.out w3 hb3
        have HB3 := Hid.mk' hb3
        clear hb3 HT
        go_wp2_with fail
        go_ret
        exact ⟨rfl, HB3.out⟩
  · rw [show dwE z n t = weightsErr z n by unfold dwE; rw [if_neg h0]]
    rw [errV_pos a h0] at hV ⊢
    clear hE h
    go_enter Tryd.func37, Tryd.ntmps37
    go_wp2_with fail
    refine hV.mono ?_
    rintro e w2 ⟨rfl, hw2⟩
    rw [hw2]
    clear hw2 hV
    go_wp2_with fail
    go_ret
    exact ⟨rfl, Below.refl _ _⟩
theorem bits_of {t : ByteArray} (h : bitB t = true) : ∀ i (hi : i < t.size), (t[i]'hi) = 48 ∨ (t[i]'hi) = 49 := fun i hi => by
  have h1 := List.all_eq_true.1 h (t[i]'hi) (by
    rw [Array.mem_toList_iff]
    exact Array.getElem_mem hi)
  simpa using h1
theorem row_ofS {w : World} {v : Value} {n : Nat} {z : Nat → Int} (h : NumsAt w v n z) (h0 : 0 < n) : ∃ b o cap, v = .slice (some ⟨b, o, none⟩) n cap ∧ RowAt w b o n z := by
  rcases h with ⟨_, _, _, h1⟩ | ⟨b, o, cap, h1, _, h2⟩
  · omega
  · exact ⟨b, o, cap, h1, h2⟩
/-- What Draw gives. -/
def drawV (a : Nat → Addr) : Option (Nat × Nat) → Value
  | some (k, u) => .tuple #[.int .i64 (k : Int), .int .i64 (u : Int), .nilIface]
  | none => .tuple #[.int .i64 0, .int .i64 0, errV a 6]
set_option maxRecDepth 100000 in
set_option maxHeartbeats 4000000 in
theorem Draw_ok (a : Nat → Addr) (v : Value) (n S : Nat) (z : Nat → Int) (t : ByteArray) (w : World) (hE : Errs w a) (h : NumsAt w v n z) (hS : sumN z n = (S : Int)) (h0 : dwE z n t = 0) :
    Calls Tryd.prog 13 #[v, .string t] w fun e w' => (∃ r, e = .returned (drawV a r) ∧ Comes (xT z n S) n (dpT S) t.size (bitN t) 0 0 0 r) ∧ Below w.heap.size w w' := by
  have hw0 : weightsErr z n = 0 := by
    unfold dwE at h0
    split at h0
    · assumption
    · exact h0
  have ht : t.size ≤ 4000 ∧ bitB t = true := by
    unfold dwE at h0
    rw [if_pos hw0] at h0
    split at h0
    · cases h0
    · split at h0
      · next h1 h2 => exact ⟨by omega, h2⟩
      · cases h0
  obtain ⟨h16, hok⟩ := weightsErr_ok hw0
  obtain ⟨b, o, cap, rfl, hrow⟩ := row_ofS h hok.posN
  have hDE := drawError_any a _ n z t w hE h (by omega) (by omega)
  rw [h0, errV_zero] at hDE
  have hp := hok.pos
  have hl := hok.le
  have HLV := Hid.mk' (fun (W : World) (hb : Below w.heap.size w W) => leavesOf_any b o cap n S z W (hrow.later hb) hok hS h16)
  have hxs := xT_sum hok.nn hS
  have hxn : xT z n S n < 2 ^ dpT S := by
    unfold xT
    rw [if_neg (by omega)]
    have := Nat.two_pow_pos (dpT S)
    omega
  have hD := dpT_le (S := S) (by omega) (by omega)
  have HRD := Hid.mk' (fun (W : World) (u : Value) (p : Nat) (hu : LvsAt W u (xT z n S) n (dpT S)) (hp : p ≤ t.size) => readLeaf_any u (xT z n S) n (dpT S) p t W hu hxs hxn hD hp ht.1 (bits_of ht.2))
  have HE6 := Hid.mk' (fun (W : World) (hb : Below w.heap.size w W) => (hE.below hb).c5)
  have hts := ht.1
  clear hE h hrow hok hw0 h0 hS hxs hxn ht
  generalize xT z n S = x at *
  generalize dpT S = D at *
  go_enter Tryd.func13, Tryd.ntmps13
  go_wp2_with fail
  refine hDE.mono ?_
  rintro e w2 ⟨rfl, hb2⟩
  have HB2 := Hid.mk' hb2
  have HLV2 := Hid.mk' (HLV.out w2 hb2)
  clear hb2 hDE HLV
  go_wp2_with fail
  refine HLV2.out.mono ?_
  rintro e w3 ⟨u, vs, rfl, hu, hb3⟩
  obtain ⟨ua, uc, rfl⟩ := hu.form
  have HU : Hid (LvsAt w3 (.slice ua (D + 1) uc) x n D) := ⟨vs, hu⟩
  have HB3 := Hid.mk' (below_chain HB2.out hb3)
  clear hu hb3 HLV2
  go_wp2_with fail
  go_loopw [5] (fun q wr => ∃ p : Nat, p ≤ t.size ∧ q = .int .i64 p ∧ Hid (∀ r, Comes x n D t.size (bitN t) 0 0 p r → Comes x n D t.size (bitN t) 0 0 0 r) ∧ wr = w3) (fun q _ => t.size - (intOf q).toNat)
  case atStart => exact ⟨0, Nat.zero_le _, rfl, fun r h => h, rfl⟩
  case round =>
    obtain ⟨p, hp, rfl, HC, hwr⟩ := hrel
    rw [hwr]
    clear hwr
    have hpI : (p : Int) ≤ (t.size : Int) := by omega
    have hp0 : (0 : Int) ≤ (p : Int) := by omega
    have HR := Hid.mk' (HRD.out w3 _ p HU.out hp)
    have HE : Hid (t.extract p t.size = bhT t p) := rfl
    go_wp2_with fail
    rw [HE.out]
    refine HR.out.mono ?_
    rintro e w4 ⟨⟨lf, rd, ok, rfl, hno, hyes⟩, hw4⟩
    rw [hw4]
    clear hw4 HR HE
    cases ok with
    | false =>
      have HN := Hid.mk' (HC.out _ (hno rfl))
      have c5 := HE6.out _ HB3.out
      have c5d := HE6.out _ HB3.out.drew
      clear hno hyes HC
      go_wp2_with fail
      go_region
      all_goals
        go_wp2_with fail
        go_ret3
        exact ⟨⟨none, rfl, HN.out⟩, HB3.out.drew⟩
    | true =>
      obtain ⟨g1, g2, g3, g4⟩ := hyes rfl
      have HG3 : Hid (lf < n → Comes x n D t.size (bitN t) 0 0 p (some (lf, p + rd))) := g3
      have HG4 : Hid (lf = n → 0 < rd ∧ ∀ r, Comes x n D t.size (bitN t) 0 0 (p + rd) r → Comes x n D t.size (bitN t) 0 0 p r) := g4
      have g1I : (p : Int) + (rd : Int) ≤ 4000 := by omega
      have hrd0 : (0 : Int) ≤ (rd : Int) := by omega
      clear hno hyes g3 g4
      rcases Nat.lt_or_ge lf n with h5 | h5
      · have h5I : (lf : Int) < (n : Int) := by omega
        have HN := Hid.mk' (HC.out _ (HG3.out h5))
        clear HG3 HG4 HC
        go_wp2_with fail
        go_ret3
        exact ⟨⟨some (lf, p + rd), rfl, HN.out⟩, HB3.out⟩
      · have h5I : ¬ (lf : Int) < (n : Int) := by omega
        obtain ⟨hr0, hr1⟩ := HG4.out (by omega)
        have HN : Hid (∀ r, Comes x n D t.size (bitN t) 0 0 (p + rd) r → Comes x n D t.size (bitN t) 0 0 0 r) := fun r h => HC.out r (hr1 r h)
        clear HG3 HG4 HC hr1
        go_wp2_with fail
        exact ⟨⟨p + rd, g1, by rw [Int.natCast_add], HN, trivial⟩, by simp [intOf]; omega⟩
set_option maxRecDepth 100000 in
set_option maxHeartbeats 2000000 in
theorem Draw_bad (a : Nat → Addr) (v : Value) (n : Nat) (z : Nat → Int) (t : ByteArray) (w : World) (hE : Errs w a) (h : NumsAt w v n z) (hn : n ≤ 1000000) (ht : t.size ≤ 9223372036854775807) (h0 : dwE z n t ≠ 0) :
    Calls Tryd.prog 13 #[v, .string t] w fun e w' => e = .returned (.tuple #[.int .i64 0, .int .i64 0, errV a (dwE z n t)]) ∧ Below w.heap.size w w' := by
  have hDE := drawError_any a v n z t w hE h hn ht
  obtain ⟨ad, cap, rfl⟩ := h.form
  rw [errV_pos a h0] at hDE ⊢
  clear hE h
  go_enter Tryd.func13, Tryd.ntmps13
  go_wp2_with fail
  refine hDE.mono ?_
  rintro e w2 ⟨rfl, hb2⟩
  have HB2 := Hid.mk' hb2
  clear hb2 hDE
  go_wp2_with fail
  go_ret3
  exact ⟨rfl, HB2.out⟩
end Go.Proofs.YtobmngkaoahmiaaDoor
