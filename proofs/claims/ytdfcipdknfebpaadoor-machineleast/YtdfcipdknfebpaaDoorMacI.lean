/- machine.fresh: the loop. -/
import Derived.Test.YtdfcipdknfebpaaDoorMacH
namespace Go.Proofs.YtdfcipdknfebpaaDoor
open Go.RowKit Go.Maps Go.WideMaps

theorem Tryd.lawStr : Keyed Tryd.prog 9 := Keyed.of_law (string_law Tryd.underlying9)
theorem Tryd.zeroI (w : World) : (zeroValue 3).run Tryd.prog w = .ok (.int .i64 0) w := by kernel_rfl
theorem wf_i64M (o : Nat) (h : o ≤ 1000000) : (Lit.int .i64 (o : Int)).wf = true := by
  have h1 : IntKind.i64.min = -9223372036854775808 := by decide
  have h2 : IntKind.i64.max = 9223372036854775807 := by decide
  simp only [Lit.wf, h1, h2, Bool.and_eq_true, decide_eq_true_eq]
  omega
theorem keyOf_bt (s : List UInt8) (hs : s.length ≤ 1000000) : keyOf Tryd.prog 9 (.string (bt s)) = some (.string s) := by
  have := keyOf_string_mk (P := Tryd.prog) Tryd.underlying9 (s := bt s) (by rw [bt_size]; unfold maxLen; omega)
  rwa [bt_list] at this
/-- Below B all but block m is as it was. -/
structure BelowX (B m : Nat) (w w' : World) : Prop where
  os : w'.os = w.os
  tape : w'.tape = w.tape
  output : w'.output = w.output
  size : w.heap.size ≤ w'.heap.size
  block : ∀ k, k < B → k ≠ m → w'.heap[k]? = w.heap[k]?
theorem BelowX.of {B m : Nat} {w w' : World} (h : Below B w w') : BelowX B m w w' := ⟨h.os, h.tape, h.output, h.size, fun k hk _ => h.block k hk⟩
theorem BelowX.trans {B m : Nat} {a b c : World} (h : BelowX B m a b) (k : BelowX B m b c) : BelowX B m a c :=
  ⟨k.os.trans h.os, k.tape.trans h.tape, k.output.trans h.output, Nat.le_trans h.size k.size, fun i hi hn => (k.block i hi hn).trans (h.block i hi hn)⟩
theorem BelowX.alloc {B m : Nat} {a w : World} (h : BelowX B m a w) (hB : B ≤ w.heap.size) (o : Obj) : BelowX B m a (w.alloc o) := h.trans (.of ((Below.refl _ _).alloc hB o))
theorem BelowX.grown {B m : Nat} {a w w' : World} {row : Option Nat} (h : BelowX B m a w) (hg : w.grownBy w' row) (hB : B ≤ w.heap.size) (hr : ∀ k, row = some k → B ≤ k ∨ k = m) : BelowX B m a w' :=
  h.trans ⟨hg.os, hg.tape, hg.output, hg.size, fun k hk hn => hg.block k (by omega) (fun e => by rcases hr k e.symm with h | h <;> omega)⟩
/-- The texts that were met, in a map in memory: how often. -/
def SeenAt (w : World) (Bm : Nat) (T : MT) (N : Nat) : Prop := ∃ (D : DataW Unit) (c : List UInt8 → Nat), w.ownsMap Tryd.prog 9 (plainElem (H := Unit) Tryd.prog 3) Bm N D ∧ IsMap D ∧
  (∀ x, bitL x = true → D.atKey (.string x) (.lit (.int .i64 0)) = .lit (.int .i64 (c x : Int))) ∧ (∀ x, bitL x = true → (T.get x).isSome = decide (c x ≠ 0)) ∧ ∀ x, c x ≤ N
theorem ownsMap_laterM {H : Type} {P : Program} {k : TypeId} {R : Value → Option (DataW H × List MemPlace)} {w w' : World} {b n : Nat} {D : DataW H} (h : w.ownsMap P k R b n D) (hb : w'.heap[b]? = w.heap[b]?) : w'.ownsMap P k R b n D := by
  obtain ⟨es, cl, h1, h2⟩ := h
  exact ⟨es, cl, by rw [hb]; exact h1, h2⟩
theorem SeenAt.later {w w' : World} {Bm N : Nat} {T : MT} (h : SeenAt w Bm T N) (hb : w'.heap[Bm]? = w.heap[Bm]?) : SeenAt w' Bm T N := by
  obtain ⟨D, c, h1, h2⟩ := h
  exact ⟨D, c, ownsMap_laterM h1 hb, h2⟩
theorem SeenAt.mono {w : World} {Bm N N' : Nat} {T : MT} (h : SeenAt w Bm T N) (hn : N ≤ N') : SeenAt w Bm T N' := by
  obtain ⟨D, c, h1, h2, h3, h4, h5⟩ := h
  exact ⟨D, c, h1.mono hn, h2, h3, h4, fun x => Nat.le_trans (h5 x) hn⟩
theorem seen_put {w1 : World} {Bm N : Nat} {T T' : MT} {D : DataW Unit} {c : List UInt8 → Nat} {x : List UInt8} (hI : IsMap D) (h3 : ∀ x, bitL x = true → D.atKey (.string x) (.lit (.int .i64 0)) = .lit (.int .i64 (c x : Int))) (h4 : ∀ x, bitL x = true → (T.get x).isSome = decide (c x ≠ 0)) (h5 : ∀ x, c x ≤ N)
    (h : w1.ownsMap Tryd.prog 9 (plainElem (H := Unit) Tryd.prog 3) Bm (N + 1) (D.put (.string x) (.lit (.int .i64 ((c x : Int) + 1))))) (hT : ∀ y, bitL y = true → (T'.get y).isSome = (decide (x = y) || (T.get y).isSome)) : SeenAt w1 Bm T' (N + 1) := by
  refine ⟨_, fun y => if x = y then c y + 1 else c y, h, h.isMap, fun y hy => ?_, fun y hy => ?_, fun y => ?_⟩
  · by_cases e : x = y
    · subst e; rw [atKey_put_same hI (show WideAt.IsKeyLit (.string x) from trivial)]; simp
    · rw [atKey_put_other (fun e2 => e (by injection e2 with e2; exact e2.symm)), h3 y hy]; simp [e]
  · rw [hT y hy, h4 y hy]
    by_cases e : x = y
    · simp [e]
    · simp [e]
  · have := h5 y
    show (if x = y then c y + 1 else c y) ≤ N + 1
    split <;> omega

theorem own_keptM {W W' : World} {B : Nat} {e : TypeId} {sz n : Nat} {v : Value} {xs : List Value} {row : Option Nat} (h : W.ownsRow B e sz v n xs) (hg : W.grownBy W' row) (hne : ∀ g, v.ownBlock = some g → row ≠ some g) : W'.ownsRow B e sz v n xs := by
  refine ⟨h.1, ?_⟩
  rcases h.2 with h2 | ⟨g, cap, cur, h1, h2, h3, h4⟩
  · exact Or.inl h2
  · exact Or.inr ⟨g, cap, cur, h1, h2, by rw [hg.block g (Array.getElem?_eq_some_iff.1 h3).1 (fun e => hne g (by rw [h1]; rfl) e.symm)]; exact h3, h4⟩
theorem cell_keptM {W W' : World} {p : Addr} {v : Value} {row : Option Nat} (h : W.cell? p = some v) (hg : W.grownBy W' row) (hne : row ≠ some p.block) : W'.cell? p = some v := by
  have h1 := hg.block p.block (cell_lt h) (fun e => hne e.symm)
  unfold World.cell? at h ⊢
  rw [h1]; exact h
theorem lit_eq {D : DataW Unit} {n : Int} {kl : Lit} {x : Int} (h : D.atKey kl (.lit (.int .i64 0)) = .lit (.int .i64 n)) (hat : D.atKey kl (.lit (.int .i64 0)) = .lit (.int .i64 x)) : x = n := by
  rw [h] at hat; injection hat with h1; injection h1 with _ h2; exact h2.symm
set_option maxRecDepth 100000 in
set_option maxHeartbeats 8000000 in
theorem fresh_any (l : List Pg) (v : Value) (B Bm N : Nat) (T : MT) (w : World) (ho : OwnW w B v l) (hm : SeenAt w Bm T N) (hB : Bm < B) (hBw : B ≤ w.heap.size) (hn : l.length ≤ 1000) (hN : N ≤ 100000) (hsm : ∀ p ∈ l, (stp p).length ≤ 100) :
    Calls Tryd.prog 38 #[v, .map (some Bm)] w fun e w' => ∃ d, e = .returned d ∧ OwnW w' w.heap.size d (frs (l.mergeSort fun x y => !ltP y x) T).1 ∧ SeenAt w' Bm (frs (l.mergeSort fun x y => !ltP y x) T).2 (N + l.length) ∧ BelowX B Bm w w' := by
  obtain ⟨i0, hi, hz0, hz1, hz2⟩ := info_parts Tryd.infoWr
  have HINF : Hid (Tryd.prog.info? 79 = some i0 ∧ i0.zero = some (.agg #[.string ⟨#[]⟩, .string ⟨#[]⟩]) ∧ i0.size = 2 ∧ i0.bytes = 32) := ⟨hi, hz0, hz1, hz2⟩
  clear hi hz0 hz1 hz2
  have hS := sort_any l v B w ho (by omega)
  have hlen : (l.mergeSort fun x y => !ltP y x).length = l.length := List.length_mergeSort _
  have hmem : ∀ p ∈ l.mergeSort fun x y => !ltP y x, (stp p).length ≤ 100 := fun p hp => hsm p ((List.mergeSort_perm l _).mem_iff.1 hp)
  generalize (l.mergeSort fun x y => !ltP y x) = l' at *
  rw [← hlen] at hn ⊢
  have HS := Hid.mk' hS
  have HMEM := Hid.mk' hmem
  have HM := Hid.mk' hm
  obtain ⟨ad, cap, rfl, had⟩ := own_form ho
  have HGW : Hid (∀ g, ad = some ⟨g, 0, none⟩ → g < w.heap.size) := fun g e => (ho.lt g (by rw [e]; rfl)).2
  rw [← hlen] at had
  have HLEN := Hid.mk' hlen
  clear hS hmem hm ho hsm
  go_enter Tryd.func38, Tryd.ntmps38
  go_wp2_with fail
  refine HS.out.mono ?_
  clear HS
  rintro e W1 ⟨rfl, hO1, hB1⟩
  have HO1 := Hid.mk' hO1
  have HB1 := Hid.mk' hB1
  have HM1 : Hid (SeenAt W1 Bm T N) := HM.out.later (hB1.block Bm hB)
  rw [← HLEN.out]
  rw [← HLEN.out] at HO1
  have hs1 := hB1.size
  obtain ⟨n, hnn⟩ : ∃ n, n = l'.length := ⟨_, rfl⟩
  rw [← hnn] at hn had HO1 ⊢
  have HNN := Hid.mk' hnn
  have HADN := Hid.mk' had
  have hnI : (n : Int) ≤ 1000 := by omega
  clear hO1 hB1 HM hnn hlen HLEN had
  go_wp2_with fail
  go_loopw [5, 12] (fun d t wr => ∃ i : Nat, i ≤ n ∧ t = .int .i64 (i : Int) ∧ Hid (OwnW wr w.heap.size d (frs (l'.take i) T).1) ∧ Hid (SeenAt wr Bm (frs (l'.take i) T).2 (N + i)) ∧ Hid (OwnW wr B (.slice ad n cap) l') ∧ Hid (BelowX B Bm w wr) ∧ Hid (W1.heap.size ≤ wr.heap.size)) (fun _ t _ => n - (intOf t).toNat)
  case atStart => exact ⟨0, Nat.zero_le _, rfl, ⟨rfl, Or.inl ⟨rfl, rfl⟩⟩, HM1, by show OwnW _ _ _ _; exact HO1.out, BelowX.of HB1.out, Nat.le_refl _⟩
  case round =>
    obtain ⟨i, hin, rfl, HO, HM, HV, HX, HSZ⟩ := hrel
    have hi0 : (0 : Int) ≤ (i : Int) := by omega
    rcases Nat.lt_or_ge i n with h1 | h1
    · have hiI : (i : Int) < (n : Int) := by omega
      obtain ⟨p, hp⟩ : ∃ p, l'[i]? = some p := ⟨_, List.getElem?_eq_getElem (by have := HNN.out; omega)⟩
      obtain ⟨g, rfl⟩ := HADN.out (by omega)
      have hsp := HMEM.out p (List.mem_of_getElem? hp)
      have HTK : Hid (l'.take (i + 1) = l'.take i ++ [p]) := by show _ = _; rw [List.take_add_one, hp]; rfl
      obtain ⟨hc0, hc1⟩ := wrC_at l' i p hp
      have z0 : wr.cell? ⟨g, i * 2, none⟩ = some (.string (bt (fla p))) := (own_cell HV.out (by have := HNN.out; omega)).trans hc0
      have z1 : wr.cell? ⟨g, i * 2 + 1, none⟩ = some (.string (bt (stp p))) := (own_cell HV.out (by have := HNN.out; omega)).trans hc1
      have hzS := bt_size (stp p)
      have hgw : g < w.heap.size := HGW.out g rfl
      have hwz : w.heap.size ≤ wr.heap.size := HX.out.size
      have HFL : Hid ((frs (l'.take i) T).1.length ≤ i) := by
        show _ ≤ _
        have := frs_len (l'.take i) T
        rw [List.length_take] at this
        omega
      clear hp hc0 hc1
      by_cases hlong : 24 < (stp p).length
      · have HE : Hid (frs (l'.take (i + 1)) T = frs (l'.take i) T) := by show _ = _; rw [HTK.out]; exact frs_long _ _ hlong
        generalize bt (fla p) = Fp at *
        generalize bt (stp p) = Sp at *
        have hI1 : (24 : Int) < (Sp.size : Int) := by omega
        have hI2 : (Sp.size : Int) ≤ 1000 := by omega
        clear hzS hlong
        go_wp2_with fail
        go_roundw
        case rel => exact ⟨i + 1, by omega, by simp, by show OwnW _ _ _ _; rw [HE.out]; exact HO.out.alloc _, by show SeenAt _ _ _ _; rw [HE.out]; exact (HM.out.later (Below.heap_alloc _ _ _ (by omega))).mono (by omega), HV.out.alloc _, HX.out.alloc (by omega) _, by show _ ≤ _; rw [World.size_alloc]; have := HSZ.out; omega⟩
        case measure => simp [intOf]; omega
      · obtain ⟨D, c, hD1, hD2, hD3, hD4, hD5⟩ := HM.out
        have hb := stp_bit p
        have HKEY := Hid.mk' (keyOf_bt (stp p) (by omega))
        have HAT := Hid.mk' (hD3 (stp p) hb)
        have hc5 := hD5 (stp p)
        have HAT2 : Hid ((D.put (.string (stp p)) (.lit (.int .i64 ((c (stp p) : Int) + 1)))).atKey (.string (stp p)) (.lit (.int .i64 0)) = .lit (.int .i64 ((c (stp p) : Int) + 1))) := atKey_put_same hD2 (show WideAt.IsKeyLit (.string (stp p)) from trivial) _ _
        have hg4 := hD4 (stp p) hb
        have HPUT : Hid (∀ (w1 : World) (T' : MT), w1.ownsMap Tryd.prog 9 (plainElem (H := Unit) Tryd.prog 3) Bm (N + i + 1) (D.put (.string (stp p)) (.lit (.int .i64 ((c (stp p) : Int) + 1)))) → (∀ y, bitL y = true → (T'.get y).isSome = (decide (stp p = y) || ((frs (l'.take i) T).2.get y).isSome)) → SeenAt w1 Bm T' (N + i + 1)) := fun w1 T' h2 h3 => seen_put hD2 hD3 hD4 hD5 h2 h3
        have HWF : Hid ((Lit.int .i64 ((c (stp p) : Int) + 1)).wf = true) := by
          show _ = _
          have := wf_i64M (c (stp p) + 1) (by omega)
          simpa using this
        obtain ⟨W3, hW3⟩ : ∃ W3, W3 = wr.alloc (.cells #[.string (bt (fla p)), .string (bt (stp p))] 79) := ⟨_, rfl⟩
        have HD3 : Hid (W3.ownsMap Tryd.prog 9 (plainElem (H := Unit) Tryd.prog 3) Bm (N + i) D) := by rw [hW3]; exact hD1.alloc _
        have HO3 : Hid (OwnW W3 w.heap.size u5 (frs (l'.take i) T).1) := by rw [hW3]; exact HO.out.alloc _
        have HV3 : Hid (OwnW W3 B (.slice (some ⟨g, 0, none⟩) n cap) l') := by rw [hW3]; exact HV.out.alloc _
        have HX3 : Hid (BelowX B Bm w W3) := by rw [hW3]; exact HX.out.alloc (by omega) _
        have hs3 : W3.heap.size = wr.heap.size + 1 := by rw [hW3]; simp
        have y0 : W3.cell? ⟨wr.heap.size, 0, none⟩ = some (.string (bt (fla p))) := by rw [hW3]; simp
        have y1 : W3.cell? ⟨wr.heap.size, 1, none⟩ = some (.string (bt (stp p))) := by rw [hW3]; simp
        have hl24 : (stp p).length ≤ 24 := by omega
        have HL24 := Hid.mk' hlong
        have HGM : Hid (∀ g4, u5.ownBlock = some g4 → w.heap.size ≤ g4) := fun g4 e => (HO.out.lt g4 e).1
        have HS3 := Hid.mk' hs3
        have HMB : Hid (Bm ≠ g) := fun e => by
          have hgh : ∃ cur, wr.heap[g]? = some (.cells cur 79) := by
            rcases HV.out.2 with ⟨h2, _⟩ | ⟨g', cap', cur, h2, _, h3, _⟩
            · cases h2
            · injection h2 with h5 _ _
              injection h5 with h5
              injection h5 with h5 _ _
              subst h5
              exact ⟨cur, h3⟩
          obtain ⟨cur, h3⟩ := hgh
          obtain ⟨es, cl, h4, _⟩ := hD1
          rw [e, h3] at h4
          cases h4
        clear hD1 hD2 hD3 hD4 hD5 hb HM HO HV HX hlong
        have HFP := Hid.mk' (wrC_snoc (frs (l'.take i) T).1 p)
        have HNEW : Hid (((frs (l'.take i) T).2.get (stp p)).isSome = false → frs (l'.take (i + 1)) T = ((frs (l'.take i) T).1 ++ [p], MT.put p (stp p) (frs (l'.take i) T).2)) := fun h2 => by rw [HTK.out]; exact frs_new _ _ HL24.out h2
        have HOLD : Hid (((frs (l'.take i) T).2.get (stp p)).isSome = true → frs (l'.take (i + 1)) T = frs (l'.take i) T) := fun h2 => by rw [HTK.out]; exact frs_old _ _ HL24.out h2
        have HGP : Hid (∀ y, bitL y = true → ((MT.put p (stp p) (frs (l'.take i) T).2).get y).isSome = (decide (stp p = y) || ((frs (l'.take i) T).2.get y).isSome)) := fun y hy => by
          rw [MT.get_put p (stp p) y _ (stp_bit p) hy]
          by_cases e : stp p = y
          · simp [e]
          · simp [e]
        have HGO : Hid (((frs (l'.take i) T).2.get (stp p)).isSome = true → ∀ y, bitL y = true → ((frs (l'.take i) T).2.get y).isSome = (decide (stp p = y) || ((frs (l'.take i) T).2.get y).isSome)) := fun h2 y hy => by
          by_cases e : stp p = y
          · subst e; simp [h2]
          · simp [e]
        have HCC := Hid.mk' hc5
        subst hW3
        generalize hcc : c (stp p) = cc at *
        clear hcc
        generalize frs (l'.take i) T = R at *
        generalize bt (fla p) = Fp at *
        generalize bt (stp p) = Sp at *
        have hI1 : ¬ (24 : Int) < (Sp.size : Int) := by omega
        have hI2 : (Sp.size : Int) ≤ 1000 := by omega
        have hcI : (cc : Int) ≤ 200000 := by omega
        have hc0I : (0 : Int) ≤ (cc : Int) := by omega
        have HNB : Hid (some Bm ≠ some wr.heap.size) := fun e => by injection e with e; omega
        by_cases hc0 : cc = 0
        · subst hc0
          have HG4 : Hid ((R.2.get (stp p)).isSome = false) := by show _ = _; rw [hg4]; rfl
          clear hg4 hc5 hzS hl24
          have HNE5 : Hid (∀ g4, u5.ownBlock = some g4 → some Bm ≠ some g4) := fun g4 e e2 => by injection e2 with e2; have := HGM.out g4 e; omega
          go_wp2_with (first
            | (at_lookup; go_must (first | (refine wpList_lookup_own_int _ rfl _ _ 73 rfl 9 3 .i64 Tryd.lawStr Tryd.underlying73 Tryd.underlying3 (Tryd.zeroI _) Bm _ _ rfl HO4.out _ _ rfl HKEY.out ?_; intro x hat hwc; have hcc := lit_eq HAT2.out hat; clear hat hwc; subst hcc) | (refine wpList_lookup_own_int _ rfl _ _ 73 rfl 9 3 .i64 Tryd.lawStr Tryd.underlying73 Tryd.underlying3 (Tryd.zeroI _) Bm _ _ rfl HD3.out _ _ rfl HKEY.out ?_; intro x hat hwc; have hcc := lit_eq HAT.out hat; clear hat hwc; subst hcc)))
            | (at_mapUpdate; go_must (refine wpList_mapUpdate_own _ rfl _ _ _ 73 rfl 9 3 Tryd.lawStr Tryd.underlying73 _ Bm _ _ rfl HD3.out (by unfold maxLen; omega) _ _ _ rfl rfl HKEY.out _ [] (plainElem_int Tryd.underlying3 HWF.out) ?_; intro w4 hown4 hgrow4; have b0 := cell_keptM y0 hgrow4 HNB.out; have b1 := cell_keptM y1 hgrow4 HNB.out; have HO4 := Hid.mk' hown4; have HGR4 := Hid.mk' hgrow4; clear hown4 hgrow4 y0 y1))
            | (at_builtin; go_must (refine wpList_append_lies _ rfl _ _ _ rfl w.heap.size 79 i0 _ 2 32 Tryd.underlying75 HINF.out.1 HINF.out.2.1 HINF.out.2.2.1 HINF.out.2.2.2 rfl (by omega) u5 _ _ rfl ((own_keptM HO3.out HGR4.out HNE5.out).alloc _) ⟨w4.heap.size, 0, none⟩ 1 1 [.string Fp, .string Sp] rfl rfl (two_newM _ _ _ _) (one_two rfl rfl) (by omega) (by have := HFL.out; unfold maxLen; omega) (by have := HFL.out; omega) (by have h5 := HGR4.out.size; have h6 := HS3.out; simp; omega) _ rfl ?_; intro g' cap' w6 hown6 hgrow6 hat6 hlt6; have HO6 := Hid.mk' hown6; have HG6 := Hid.mk' hgrow6; clear hown6 hgrow6 hat6)))
          have HX4 : Hid (BelowX B Bm w w4) := HX3.out.grown HGR4.out (by have := HS3.out; omega) (fun k e => by injection e with e; exact Or.inr e.symm)
          have hs4 := HGR4.out.size
          have hs3' := HS3.out
          have hs6 := HG6.out.size
          rw [World.size_alloc] at hs6
          have HV4 : Hid (OwnW w4 B (.slice (some ⟨g, 0, none⟩) n cap) l') := own_keptM HV3.out HGR4.out (fun g4 e e2 => by injection e2 with e2; simp [Value.ownBlock] at e; exact HMB.out (e2.trans e.symm))
          have HV6 : Hid (OwnW w6 B (.slice (some ⟨g, 0, none⟩) n cap) l') := own_keptM (HV4.out.alloc _) HG6.out (fun g4 e e2 => by
            have h8 := HGM.out g4 e2
            simp [Value.ownBlock] at e
            omega)
          have HX6 : Hid (BelowX B Bm w w6) := (HX4.out.alloc (by omega) _).grown HG6.out (by rw [World.size_alloc]; omega) (fun k e => Or.inl (by have := HGM.out k e; omega))
          have HSN : Hid (SeenAt w6 Bm (MT.put p (stp p) R.2) (N + i + 1)) := (HPUT.out w4 (MT.put p (stp p) R.2) HO4.out HGP.out).later (by
            rw [HG6.out.block Bm (by rw [World.size_alloc]; omega) (fun e => by have := HGM.out Bm e.symm; omega), Below.heap_alloc _ _ _ (by omega)])
          have HSZ6 : Hid (W1.heap.size ≤ w6.heap.size) := by show _ ≤ _; have h7 := HSZ.out; omega
          have HO7 : Hid (OwnW w6 w.heap.size (.slice (some ⟨g', 0, none⟩) (R.1.length + 1) cap') (R.1 ++ [p])) := by
            show World.ownsRow _ _ _ _ _ _ _
            rw [HFP.out, List.length_append]
            exact HO6.out
          clear hs4 hs3' hs6 b0 b1
          go_roundw
          case rel => exact ⟨i + 1, by omega, by simp, by show OwnW _ _ _ _; rw [HNEW.out HG4.out]; exact HO7.out, by show SeenAt _ _ _ _; rw [HNEW.out HG4.out]; exact HSN.out, HV6, HX6, HSZ6⟩
          case measure => simp [intOf]; omega
        · have HG4 : Hid ((R.2.get (stp p)).isSome = true) := by show _ = _; rw [hg4]; simpa using hc0
          have hcN : ¬ (cc : Int) + 1 = 1 := by omega
          have hcB : (((cc : Int) + 1) == 1) = false := by simpa using hcN
          clear hg4 hc5 hzS hl24
          go_wp2_with (first
            | (at_lookup; go_must (first | (refine wpList_lookup_own_int _ rfl _ _ 73 rfl 9 3 .i64 Tryd.lawStr Tryd.underlying73 Tryd.underlying3 (Tryd.zeroI _) Bm _ _ rfl HO4.out _ _ rfl HKEY.out ?_; intro x hat hwc; have hcc := lit_eq HAT2.out hat; clear hat hwc; subst hcc) | (refine wpList_lookup_own_int _ rfl _ _ 73 rfl 9 3 .i64 Tryd.lawStr Tryd.underlying73 Tryd.underlying3 (Tryd.zeroI _) Bm _ _ rfl HD3.out _ _ rfl HKEY.out ?_; intro x hat hwc; have hcc := lit_eq HAT.out hat; clear hat hwc; subst hcc)))
            | (at_mapUpdate; go_must (refine wpList_mapUpdate_own _ rfl _ _ _ 73 rfl 9 3 Tryd.lawStr Tryd.underlying73 _ Bm _ _ rfl HD3.out (by unfold maxLen; omega) _ _ _ rfl rfl HKEY.out _ [] (plainElem_int Tryd.underlying3 HWF.out) ?_; intro w4 hown4 hgrow4; have b0 := cell_keptM y0 hgrow4 HNB.out; have b1 := cell_keptM y1 hgrow4 HNB.out; have HO4 := Hid.mk' hown4; have HGR4 := Hid.mk' hgrow4; clear hown4 hgrow4 y0 y1)))
          have HOW4 : Hid (OwnW w4 w.heap.size u5 R.1) := own_keptM HO3.out HGR4.out (fun g4 e e2 => by injection e2 with e2; have := HGM.out g4 e; omega)
          have HV4 : Hid (OwnW w4 B (.slice (some ⟨g, 0, none⟩) n cap) l') := own_keptM HV3.out HGR4.out (fun g4 e e2 => by injection e2 with e2; simp [Value.ownBlock] at e; exact HMB.out (e2.trans e.symm))
          have HX4 : Hid (BelowX B Bm w w4) := HX3.out.grown HGR4.out (by have := HS3.out; omega) (fun k e => by injection e with e; exact Or.inr e.symm)
          have HSN := Hid.mk' (HPUT.out w4 R.2 HO4.out (HGO.out HG4.out))
          have HSZ4 : Hid (W1.heap.size ≤ w4.heap.size) := by show _ ≤ _; have h5 := HGR4.out.size; have h6 := HS3.out; have h7 := HSZ.out; omega
          clear b0 b1
          go_roundw
          case rel => exact ⟨i + 1, by omega, by simp, by show OwnW _ _ _ _; rw [HOLD.out HG4.out]; exact HOW4.out, by show SeenAt _ _ _ _; rw [HOLD.out HG4.out]; exact HSN.out, HV4, HX4, HSZ4⟩
          case measure => simp [intOf]; omega
    · obtain rfl : i = n := by omega
      have HE : Hid (l'.take i = l') := by show _ = _; rw [HNN.out, List.take_length]
      rw [HE.out] at HO HM
      go_wp2_with fail
      go_ret
      exact ⟨_, rfl, HO.out, by rw [← HNN.out]; exact HM.out, HX.out⟩
end Go.Proofs.YtdfcipdknfebpaaDoor
