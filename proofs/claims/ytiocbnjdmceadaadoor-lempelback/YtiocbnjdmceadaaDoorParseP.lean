/- The program's Parse: phrases in a map. -/
import Derived.Test.YtiocbnjdmceadaaDoorPzMath
import Derived.Test.YtiocbnjdmceadaaDoorLzRow
import Derived.Test.YtiocbnjdmceadaaDoorWeights
import Derived.Deep.AppendLies
import Derived.OwnWalk
import Derived.Maps.OwnOps
import Derived.Maps.Views
import Derived.DeepKeys4
namespace Go.Proofs.YtiocbnjdmceadaaDoor
open Go.RowKit Go.Maps

theorem Tryd.zeroPz (w : World) : (zeroValue 3).run Tryd.prog w = .ok (.int .i64 0) w := by kernel_rfl
theorem Tryd.widePhr : (match Tryd.prog.underlying 32 with | some (.array _ _) | some (.struct _) => true | _ => false) = true := by rw [Tryd.underlying32]
theorem Tryd.rowPhr : (32 : TypeId) < Tryd.prog.types.size := of_decide_eq_true (by kernel_rfl)
theorem Tryd.cellsPhr : Tryd.prog.cellsOf 32 = 3 := by kernel_rfl
theorem Tryd.laidPz : laidOutB Tryd.prog = true := by kernel_rfl
set_option maxRecDepth 100000 in
theorem Tryd.lawPhr : Keyed Tryd.prog 32 := Keyed.of_law (deep_law_laid Tryd.laidPz (m := 2) (by omega) Tryd.rowPhr (by kernel_rfl) Tryd.widePhr)
theorem Tryd.infoPhr : (Tryd.prog.info? 32).map (fun i => (i.zero, i.size, i.bytes)) = some (some (.agg #[.int .i64 0, .int .u8 0, .bool false]), 3, 16) := by kernel_rfl

/-- A phrase as a key. -/
def phrV (o : Nat) (c : UInt8) : Value := .agg #[.int .i64 (o : Int), .int .u8 (c.toNat : Int), .bool false]
def phrK (o : Nat) (c : UInt8) : Lit := .string (keyBytes [.int .i64 (o : Int), .int .u8 (c.toNat : Int), .bool false])
theorem wf_i64 (o : Nat) (h : o ≤ 1000000) : (Lit.int .i64 (o : Int)).wf = true := by
  have h1 : IntKind.i64.min = -9223372036854775808 := by decide
  have h2 : IntKind.i64.max = 9223372036854775807 := by decide
  simp only [Lit.wf, h1, h2, Bool.and_eq_true, decide_eq_true_eq]
  omega
theorem wf_u8 (c : UInt8) : (Lit.int .u8 (c.toNat : Int)).wf = true := by
  have h0 := c.toNat_lt
  have h1 : IntKind.u8.min = 0 := by decide
  have h2 : IntKind.u8.max = 255 := by decide
  simp only [Lit.wf, h1, h2, Bool.and_eq_true, decide_eq_true_eq]
  omega
theorem phrK_is (o : Nat) (c : UInt8) (h : o ≤ 1000000) : keyOf Tryd.prog 32 (phrV o c) = some (phrK o c) := by
  have hk : Tryd.prog.keyType 32 = true := by kernel_rfl
  have hf : (phrV o c).formed Tryd.prog 32 = true := by simp [phrV, Value.formed, Tryd.underlying32, Tryd.cellsPhr]
  have hs : Tryd.prog.keyLits (Tryd.prog.types.size + 1) 32 (phrV o c).cells.toList = some [.int .i64 (o : Int), .int .u8 (c.toNat : Int), .bool false] := by
    obtain ⟨m, hm⟩ : ∃ m, Tryd.prog.types.size = m + 1 := ⟨142 - 1, by kernel_rfl⟩
    have e0 : Tryd.prog.cellsOf 3 = 1 := by kernel_rfl
    have e1 : Tryd.prog.cellsOf 5 = 1 := by kernel_rfl
    have e2 : Tryd.prog.cellsOf 4 = 1 := by kernel_rfl
    rw [hm]
    simp [Program.keyLits, phrV, Value.cells, Tryd.underlying32, Tryd.underlying3, Tryd.underlying5, Tryd.underlying4, Tryd.cellsPhr, e0, e1, e2, wf_i64 o h, wf_u8 c]
  unfold keyOf
  rw [Tryd.underlying32]
  show (if _ then _ else _) = _
  rw [if_pos (by rw [hk, hf]; rfl), hs]
  rfl
theorem phrK_inj {o o' : Nat} {c c' : UInt8} (h : o ≤ 1000000) (h' : o' ≤ 1000000) (e : phrK o c = phrK o' c') : o = o' ∧ c = c' := by
  have h1 := phrK_is o c h
  have h2 := phrK_is o' c' h'
  rw [← e] at h2
  have := Tryd.lawPhr.inj h1 h2
  simp only [phrV, Value.agg.injEq, Array.mk.injEq, List.cons.injEq, Value.int.injEq, and_true, true_and] at this
  exact ⟨by omega, UInt8.toNat_inj.1 (by omega)⟩

/-- The cells of phrases. -/
def phrC (p : Phr) : List Value := [.int .i64 (p.of : Int), .int .u8 (p.next : Int), .bool p.last]
def phrsC : List Phr → List Value
  | [] => []
  | c :: r => phrC c ++ phrsC r
theorem phrsC_append : ∀ a b, phrsC (a ++ b) = phrsC a ++ phrsC b
  | [], b => rfl
  | c :: a, b => by simp [phrsC, phrsC_append a b]
theorem phrsC_snoc (a : List Phr) (c : Phr) : phrsC (a ++ [c]) = phrsC a ++ [.int .i64 (c.of : Int), .int .u8 (c.next : Int), .bool c.last] := by
  rw [phrsC_append]; rfl
theorem three_new (w : World) (x0 x1 x2 : Value) (t : TypeId) (j : Nat) (u : Value) (h : [x0, x1, x2][j]? = some u) : (w.alloc (.cells #[x0, x1, x2] t)).cell? ((⟨w.heap.size, 0, none⟩ : Addr).add j) = some u := by
  rw [add_plain, World.cell?_alloc_at _ _ _ _ rfl, Nat.zero_add]
  rcases j with _ | _ | _ | j
  · simpa using h
  · simpa using h
  · simpa using h
  · simp at h
theorem cell_grown {w w' : World} {row : Option Nat} {B o : Nat} {v : Value} (hg : w.grownBy w' row) (hc : w.cell? ⟨B, o, none⟩ = some v) (hne : some B ≠ row) : w'.cell? ⟨B, o, none⟩ = some v := by
  have hlt := cell_lt hc
  have := World.cell?_of_block (a := ⟨B, o, none⟩) (w := w) (hg.block B hlt hne)
  rw [this]; exact hc
theorem atPz {D : DataW Unit} {n : Nat} {kl : Lit} {x : Int} (h : D.atKey kl (.lit (.int .i64 0)) = .lit (.int .i64 (n : Int))) (hat : D.atKey kl (.lit (.int .i64 0)) = .lit (.int .i64 x)) : x = (n : Int) := by
  rw [h] at hat
  simpa using hat.symm

/-- What Parse finds in memory. -/
structure InPz (w wr : World) (sv : Value) (D : List (Nat × UInt8)) (M : DataW Unit) : Prop where
  row : wr.ownsRow (w.heap.size + 1) 32 3 sv D.length (phrsC (phrs D))
  own : wr.ownsMap Tryd.prog 32 (plainElem (H := Unit) Tryd.prog 3) w.heap.size D.length M
  at' : ∀ o c, o ≤ 1000000 → M.atKey (phrK o c) (.lit (.int .i64 0)) = .lit (.int .i64 (numOf D (o, c) : Nat))
  isM : IsMap M
  below : Below w.heap.size w wr

theorem InPz.push {w w3 w4 : World} {sv' : Value} {D : List (Nat × UInt8)} {M : DataW Unit} {o : Nat} {c : UInt8} (hrow : w3.ownsRow (w.heap.size + 1) 32 3 sv' (D.length + 1) (phrsC (phrs D) ++ [.int .i64 (o : Int), .int .u8 (c.toNat : Int), .bool false])) (hb3 : Below w.heap.size w w3) (hM : IsMap M)
    (hat : ∀ o c, o ≤ 1000000 → M.atKey (phrK o c) (.lit (.int .i64 0)) = .lit (.int .i64 (numOf D (o, c) : Nat))) (ho4 : w4.ownsMap Tryd.prog 32 (plainElem (H := Unit) Tryd.prog 3) w.heap.size (D.length + 1) (M.put (phrK o c) (.lit (.int .i64 ((D.length : Int) + 1)))))
    (hg4 : w3.grownBy w4 (some w.heap.size)) (hn : numOf D (o, c) = 0) (ho : o ≤ 1000000) : InPz w w4 sv' (D ++ [(o, c)]) (M.put (phrK o c) (.lit (.int .i64 ((D.length : Int) + 1)))) := by
  have hne : sv'.ownBlock = none ∨ sv'.ownBlock ≠ some w.heap.size := Or.inr fun e => by have := (hrow.lt _ e).1; omega
  refine ⟨?_, by rw [List.length_append]; exact ho4, fun o' c' h' => ?_, hM.put _ _, hb3.trans ((Below.refl _ _).grown hg4 hb3.size (fun k e => by simp at e; omega))⟩
  · rw [phrs_snoc, phrsC_snoc, List.length_append]
    exact hrow.kept hg4 hne
  · rw [numOf_snoc]
    by_cases he : (o, c) = (o', c')
    · simp only [Prod.mk.injEq] at he
      obtain ⟨rfl, rfl⟩ := he
      rw [atKey_put_same hM (show WideAt.IsKeyLit (phrK o c) from trivial), hn]
      simp
    · rw [atKey_put_other (fun e => he (by obtain ⟨h1, h2⟩ := phrK_inj h' ho e; rw [h1, h2])), hat o' c' h', if_neg he]
      by_cases h0 : numOf D (o', c') = 0
      · simp [h0]
      · simp [h0]

set_option maxRecDepth 100000 in
set_option maxHeartbeats 2000000 in
theorem Parse_ok (T : ByteArray) (w : World) (hs : T.size ≤ 4000) :
    Calls Tryd.prog 9 #[.string T] w fun e w' => ∃ v, e = .returned (.tuple #[v, .nilIface]) ∧ w'.ownsRow (w.heap.size + 1) 32 3 v (pzL T.data.toList).length (phrsC (pzL T.data.toList)) ∧ Below w.heap.size w w' := by
  obtain ⟨i, hi, hi2⟩ := Option.map_eq_some_iff.1 Tryd.infoPhr
  obtain ⟨hz, hsz, hby⟩ : i.zero = some (.agg #[.int .i64 0, .int .u8 0, .bool false]) ∧ i.size = 3 ∧ i.bytes = 16 := by simpa using hi2
  have HINF := Hid.mk' (And.intro hi (And.intro hz (And.intro hsz hby)))
  clear hi hi2 hz hsz hby
  have HLL : Hid (T.data.toList.length = T.size) := size_lst T
  have hsI : ¬ (4000 : Int) < (T.size : Int) := by omega
  have hmm := @run_makeMap Tryd.prog
  go_enter Tryd.func9, Tryd.ntmps9
  go_wp2_with fail
  go_loopw [5, 6, 16] (fun s x t wr => ∃ (k o : Nat) (D : List (Nat × UInt8)) (M : DataW Unit), t = .int .i64 (k : Int) ∧ x = .int .i64 (o : Int) ∧ k ≤ T.size ∧ D.length ≤ k ∧ o ≤ D.length ∧ Hid (InPz w wr s D M) ∧ Hid (pz ([], 0) (T.data.toList.take k) = (D, o))) (fun _ _ t _ => T.size - (intOf t).toNat)
  case atStart => exact ⟨0, 0, [], .map [], rfl, rfl, Nat.zero_le _, Nat.le_refl _, Nat.le_refl _, ⟨World.ownsRow_nil _ _ _ _, World.ownsMap_made _ _ _ _, fun o c _ => rfl, isMap_empty, (Below.refl _ _).alloc (Nat.le_refl _) _⟩, by show _ = _; simp [pz]⟩
  case round =>
    obtain ⟨k, o, D, M, rfl, rfl, hk, hD, ho, HI, HP⟩ := hrel
    rcases Nat.lt_or_ge k T.size with h1 | h1
    · have hkI : (k : Int) < (T.size : Int) := by omega
      have hle := HI.out.below.size
      obtain ⟨c, hc⟩ : ∃ c, c = T[k]'h1 := ⟨_, rfl⟩
      have HTK : Hid (pz ([], 0) (T.data.toList.take (k + 1)) = pzS (D, o) c) := by
        show _ = _
        rw [List.take_succ_eq_append_getElem (by rw [HLL.out]; exact h1), pz_snoc, HP.out, byte_list T k h1 (by rw [HLL.out]; exact h1), hc]
      have hcI : ((T[k]'h1).toNat : Int) = (c.toNat : Int) := by rw [hc]
      clear hc
      have HKEY := Hid.mk' (phrK_is o c (by omega))
      have HAT := Hid.mk' (HI.out.at' o c (by omega))
      have hnl := numOf_le (o, c) D
      have HOW := Hid.mk' (HI.out.own.alloc (.cells #[.int .i64 (o : Int), .int .u8 (c.toNat : Int), .bool false] 32))
      have hml : Hid (w.heap.size < wr.heap.size) := HI.out.own.lt
      by_cases hn : numOf D (o, c) = 0
      · have HTK := Hid.mk' (HTK.out.trans (pzS_new hn))
        rw [hn] at HAT
        have HRR := Hid.mk' ((HI.out.row.alloc (.cells #[.int .i64 (o : Int), .int .u8 (c.toNat : Int), .bool false] 32)).alloc (.cells #[.int .i64 (o : Int), .int .u8 (c.toNat : Int), .bool false] 32))
        have HNE : Hid (some wr.heap.size ≠ u5.ownBlock) := fun e => by have := (HI.out.row.lt _ e.symm).2; omega
        have HNM : Hid (some w.heap.size ≠ u5.ownBlock) := fun e => by have := (HI.out.row.lt _ e.symm).1; omega
        have HC3 : Hid (((wr.alloc (.cells #[.int .i64 (o : Int), .int .u8 (c.toNat : Int), .bool false] 32)).alloc (.cells #[.int .i64 (o : Int), .int .u8 (c.toNat : Int), .bool false] 32)).cell? ⟨wr.heap.size, 0, none⟩ = some (.int .i64 (o : Int)) ∧ ((wr.alloc (.cells #[.int .i64 (o : Int), .int .u8 (c.toNat : Int), .bool false] 32)).alloc (.cells #[.int .i64 (o : Int), .int .u8 (c.toNat : Int), .bool false] 32)).cell? ⟨wr.heap.size, 1, none⟩ = some (.int .u8 (c.toNat : Int)) ∧ ((wr.alloc (.cells #[.int .i64 (o : Int), .int .u8 (c.toNat : Int), .bool false] 32)).alloc (.cells #[.int .i64 (o : Int), .int .u8 (c.toNat : Int), .bool false] 32)).cell? ⟨wr.heap.size, 2, none⟩ = some (.bool false)) := by
          refine ⟨?_, ?_, ?_⟩ <;> (rw [World.cell?_alloc_lt _ _ _ (by simp), World.cell?_alloc_at _ _ _ _ rfl]; rfl)
        have HN0 : Hid (∀ j u, [Value.int .i64 (o : Int), .int .u8 (c.toNat : Int), .bool false][j]? = some u → ((wr.alloc (.cells #[.int .i64 (o : Int), .int .u8 (c.toNat : Int), .bool false] 32)).alloc (.cells #[.int .i64 (o : Int), .int .u8 (c.toNat : Int), .bool false] 32)).cell? ((⟨wr.heap.size + 1, 0, none⟩ : Addr).add j) = some u) := fun j u hu => by
          have := three_new (wr.alloc (.cells #[.int .i64 (o : Int), .int .u8 (c.toNat : Int), .bool false] 32)) (.int .i64 (o : Int)) (.int .u8 (c.toNat : Int)) (.bool false) 32 j u hu
          simpa using this
        have HBB : Hid (Below w.heap.size w ((wr.alloc (.cells #[.int .i64 (o : Int), .int .u8 (c.toNat : Int), .bool false] 32)).alloc (.cells #[.int .i64 (o : Int), .int .u8 (c.toNat : Int), .bool false] 32))) := (HI.out.below.alloc hle _).alloc (by simp; omega) _
        have HWF : Hid ((Lit.int .i64 ((D.length : Int) + 1)).wf = true) := by show _ = _; have := wf_i64 (D.length + 1) (by omega); simpa using this
        go_wp2_with (first
          | (at_lookup; go_must (refine wpList_lookup_own_int _ rfl _ _ 56 rfl 32 3 .i64 Tryd.lawPhr Tryd.underlying56 Tryd.underlying3 (Tryd.zeroPz _) w.heap.size _ _ rfl HOW.out _ _ rfl HKEY.out ?_; intro x hat hwc; have hcc := atPz HAT.out hat; clear hat hwc; subst hcc))
          | (at_mapUpdate; go_must (refine wpList_mapUpdate_own _ rfl _ _ _ 56 rfl 32 3 Tryd.lawPhr Tryd.underlying56 _ w.heap.size _ _ rfl HM3.out (by unfold maxLen; omega) _ _ _ rfl rfl HKEY.out _ [] (plainElem_int Tryd.underlying3 HWF.out) ?_; intro w4 hown4 hgrow4; have HO4 := Hid.mk' hown4; have HG4 := Hid.mk' hgrow4; clear hown4 hgrow4))
          | (at_builtin; go_must (refine wpList_append_lies _ rfl _ _ _ rfl (w.heap.size + 1) 32 i _ 3 16 Tryd.underlying23 HINF.out.1 HINF.out.2.1 HINF.out.2.2.1 HINF.out.2.2.2 rfl (by omega) u5 D.length (phrsC (phrs D)) rfl HRR.out ⟨wr.heap.size + 1, 0, none⟩ 1 1 [.int .i64 (o : Int), .int .u8 (c.toNat : Int), .bool false] rfl rfl HN0.out (by simp [Value.oneCell']) (by omega) (by unfold maxLen; omega) (by omega) (by have := hml.out; simp; omega) _ rfl ?_; intro g' cap' w3 hown3 hgrow3 hat3 hlt3; have b0 := cell_grown hgrow3 HC3.out.1 HNE.out; have b1 := cell_grown hgrow3 HC3.out.2.1 HNE.out; have b2 := cell_grown hgrow3 HC3.out.2.2 HNE.out; have HM3 := Hid.mk' ((HOW.out.alloc (.cells #[.int .i64 (o : Int), .int .u8 (c.toNat : Int), .bool false] 32)).kept hgrow3 HNM.out); have HW3 := Hid.mk' hown3; have HB3 := Hid.mk' (HBB.out.trans ((Below.refl _ _).grown hgrow3 (by simp; omega) (fun k e => by have := (HRR.out.lt k e).1; omega))); clear hown3 hgrow3 hat3)))
        exact ⟨⟨k + 1, 0, D ++ [(o, c)], _, by go_num, rfl, h1, by simp; omega, Nat.zero_le _, InPz.push HW3.out HB3.out HI.out.isM HI.out.at' HO4.out HG4.out hn (by omega), HTK⟩, by simp [intOf]; omega⟩
      · have HTK := Hid.mk' (HTK.out.trans (pzS_old hn))
        generalize hnn : numOf D (o, c) = n at *
        have hnb : ((n : Int) == 0) = false := by rw [beq_eq_false_iff_ne]; omega
        clear hnn
        go_wp2_with (at_lookup; go_must (refine wpList_lookup_own_int _ rfl _ _ 56 rfl 32 3 .i64 Tryd.lawPhr Tryd.underlying56 Tryd.underlying3 (Tryd.zeroPz _) w.heap.size _ _ rfl HOW.out _ _ rfl HKEY.out ?_; intro x hat hwc; have hcc := atPz HAT.out hat; clear hat hwc; subst hcc))
        exact ⟨⟨k + 1, n, D, M, by go_num, rfl, h1, by omega, hnl, ⟨HI.out.row.alloc _, HOW.out, HI.out.at', HI.out.isM, HI.out.below.alloc hle _⟩, HTK⟩, by simp [intOf]; omega⟩
    · obtain rfl : k = T.size := by omega
      have hle := HI.out.below.size
      have hkI : ¬ (T.size : Int) < (T.size : Int) := by omega
      have HE : Hid (pzL T.data.toList = pzO (D, o)) := by
        show pzO _ = _
        have := HP.out
        rw [List.take_of_length_le (by rw [HLL.out]; exact Nat.le_refl _)] at this
        rw [this]
      by_cases h0 : o = 0
      · have HE2 : Hid (pzL T.data.toList = phrs D) := by show _ = _; rw [HE.out, pzO, if_pos h0]
        subst h0
        go_wp2_with fail
        go_ret2
        exact ⟨_, rfl, by rw [HE2.out, phrs_length]; exact HI.out.row, HI.out.below⟩
      · have HE2 : Hid (pzL T.data.toList = phrs D ++ [⟨o, 0, true⟩]) := by show _ = _; rw [HE.out, pzO, if_neg h0]
        have h0I : (0 : Int) < (o : Int) := by omega
        have HRR := Hid.mk' (HI.out.row.alloc (.cells #[.int .i64 (o : Int), .int .u8 0, .bool true] 32))
        have hml : Hid (w.heap.size < wr.heap.size) := HI.out.own.lt
        have HN0 : Hid (∀ j u, [Value.int .i64 (o : Int), .int .u8 0, .bool true][j]? = some u → (wr.alloc (.cells #[.int .i64 (o : Int), .int .u8 0, .bool true] 32)).cell? ((⟨wr.heap.size, 0, none⟩ : Addr).add j) = some u) := fun j u hu => three_new wr (.int .i64 (o : Int)) (.int .u8 0) (.bool true) 32 j u hu
        have HBB : Hid (Below w.heap.size w (wr.alloc (.cells #[.int .i64 (o : Int), .int .u8 0, .bool true] 32))) := HI.out.below.alloc hle _
        go_wp2_with (at_builtin; go_must (refine wpList_append_lies _ rfl _ _ _ rfl (w.heap.size + 1) 32 i _ 3 16 Tryd.underlying23 HINF.out.1 HINF.out.2.1 HINF.out.2.2.1 HINF.out.2.2.2 rfl (by omega) u5 D.length (phrsC (phrs D)) rfl HRR.out ⟨wr.heap.size, 0, none⟩ 1 1 [.int .i64 (o : Int), .int .u8 0, .bool true] rfl rfl HN0.out (by simp [Value.oneCell']) (by omega) (by unfold maxLen; omega) (by omega) (by have := hml.out; simp; omega) _ rfl ?_; intro g' cap' w3 hown3 hgrow3 hat3 hlt3; have HW3 := Hid.mk' hown3; have HB3 := Hid.mk' (HBB.out.trans ((Below.refl _ _).grown hgrow3 (by simp; omega) (fun k e => by have := (HRR.out.lt k e).1; omega))); clear hown3 hgrow3 hat3))
        go_ret2
        exact ⟨_, rfl, by rw [HE2.out, phrsC_snoc, List.length_append, phrs_length]; exact HW3.out, HB3.out⟩
end Go.Proofs.YtiocbnjdmceadaaDoor
