/- The program's Text. -/
import Derived.Test.YtiocbnjdmceadaaDoorTxMath
import Derived.Test.YtiocbnjdmceadaaDoorBldP
import Derived.Test.YtiocbnjdmceadaaDoorParseD
namespace Go.Proofs.YtiocbnjdmceadaaDoor
open Go.RowKit

/-- Phrases in memory, whatever their numbers are. -/
def PhiAt (w : World) (v : Value) (l : List PhI) : Prop := ∃ ad cap, v = .slice ad l.length cap ∧ ∀ i c, l[i]? = some c → ∃ b o, ad = some ⟨b, o, none⟩ ∧ w.cell? ⟨b, o + i * 3, none⟩ = some (.int .i64 c.of) ∧ w.cell? ⟨b, o + i * 3 + 1, none⟩ = some (.int .u8 (c.next.toNat : Int)) ∧ w.cell? ⟨b, o + i * 3 + 2, none⟩ = some (.bool c.last)
theorem PhiAt.later {w w' : World} {v : Value} {l : List PhI} (h : PhiAt w v l) (hb : Below w.heap.size w w') : PhiAt w' v l := by
  obtain ⟨ad, cap, hv, hc⟩ := h
  refine ⟨ad, cap, hv, fun i c hi => ?_⟩
  obtain ⟨b, o, ha, h0, h1, h2⟩ := hc i c hi
  refine ⟨b, o, ha, ?_, ?_, ?_⟩
  · rw [hb.cell (cell_lt h0)]; exact h0
  · rw [hb.cell (cell_lt h1)]; exact h1
  · rw [hb.cell (cell_lt h2)]; exact h2
theorem PhiAt.form {w : World} {v : Value} {l : List PhI} (h : PhiAt w v l) : ∃ ad cap, v = .slice ad l.length cap := let ⟨ad, cap, hv, _⟩ := h; ⟨ad, cap, hv⟩
theorem PhiAt.at {w : World} {ad : Option Addr} {n cap : Nat} {l : List PhI} (h : PhiAt w (.slice ad n cap) l) {i : Nat} {c : PhI} (hi : l[i]? = some c) : ∃ b o, ad = some ⟨b, o, none⟩ ∧ w.cell? ⟨b, o + i * 3, none⟩ = some (.int .i64 c.of) ∧ w.cell? ⟨b, o + i * 3 + 1, none⟩ = some (.int .u8 (c.next.toNat : Int)) ∧ w.cell? ⟨b, o + i * 3 + 2, none⟩ = some (.bool c.last) := by
  obtain ⟨ad', cap', hv, hc⟩ := h
  obtain ⟨rfl, _, rfl⟩ : ad = ad' ∧ n = l.length ∧ cap = cap' := by simpa using hv
  exact hc i c hi
theorem conv_one (w : World) (x : UInt8) : (convert 66 9 (.slice (some ⟨w.heap.size, 0, none⟩) 1 1)).run Tryd.prog (w.alloc (.cells #[.int .u8 (x.toNat : Int)] 5)) = .ok (.string ⟨#[x]⟩) (w.alloc (.cells #[.int .u8 (x.toNat : Int)] 5)) := by
  have h1 := run_convert_bytes_arg (P := Tryd.prog) (w.alloc (.cells #[.int .u8 (x.toNat : Int)] 5)) 66 5 Tryd.underlying66 Tryd.underlying5 w.heap.size 0 1 1 [(x.toNat : Int)] rfl (fun i hi => by
    obtain rfl : i = 0 := by omega
    rw [World.cell?_alloc_at _ _ _ _ rfl]; rfl) 9 Tryd.underlying9
  rw [h1]
  simp [strOfNums]
theorem bytes_cells (l : List UInt8) : Go.Lib.strCells ⟨l.toArray⟩ = Go.Lib.byteCells l := by
  simp [Go.Lib.strCells, Go.Lib.byteCells]
theorem cells_more (a b : List UInt8) : Go.Lib.byteCells a ++ Go.Lib.byteCells b = Go.Lib.byteCells (a ++ b) := by simp [Go.Lib.byteCells]
theorem cells_len (a : List UInt8) : (Go.Lib.byteCells a).length = a.length := by simp [Go.Lib.byteCells]
theorem ba_add (a : List UInt8) (x : UInt8) : (⟨a.toArray⟩ : ByteArray) ++ ⟨#[x]⟩ = ⟨(a ++ [x]).toArray⟩ := by
  refine ba_same ?_
  rw [ByteArray.data_append]
  simp

theorem short_nil : ∀ (i : Nat) (a : List UInt8), [([] : List UInt8)][i]? = some a → a.length ≤ 4000
  | 0, a, h => by simp at h; subst h; simp
  | i + 1, a, h => by simp at h
theorem short_more {K : List (List UInt8)} {t : List UInt8} (h : ∀ (i : Nat) (a : List UInt8), K[i]? = some a → a.length ≤ 4000) (ht : t.length ≤ 4000) : ∀ (i : Nat) (a : List UInt8), (K ++ [t])[i]? = some a → a.length ≤ 4000 := fun i a ha => by
  rcases Nat.lt_or_ge i K.length with h' | h'
  · rw [List.getElem?_append_left h'] at ha; exact h i a ha
  · rw [List.getElem?_append_right h'] at ha
    rcases Nat.eq_or_lt_of_le h' with e | e
    · rw [← e, Nat.sub_self] at ha
      obtain rfl : t = a := by simpa using ha
      exact ht
    · rw [List.getElem?_eq_none (by simp; omega)] at ha; cases ha
set_option maxRecDepth 100000 in
set_option maxHeartbeats 8000000 in
theorem Text_any (a : Nat → Addr) (v : Value) (l : List PhI) (w : World) (hE : Errs w a) (h : PhiAt w v l) (hn : l.length ≤ 1000000) :
    Calls Tryd.prog 13 #[v] w fun e w' => ∃ (s : ByteArray) (x : Value), e = .returned (.tuple #[.string s, x]) ∧ ErrIs a w' x (phE l) ∧ ((phE l).1 = 0 → s = ⟨(phT l).toArray⟩) ∧ ((phE l).1 ≠ 0 → s = ⟨#[]⟩) ∧ Below w.heap.size w w' := by
  obtain ⟨i, hi, hi2⟩ := Option.map_eq_some_iff.1 Tryd.infoStz
  obtain ⟨hz, hsz, hby⟩ : i.zero = some (.string ⟨#[]⟩) ∧ i.size = 1 ∧ i.bytes = 16 := by simpa using hi2
  have HINS := Hid.mk' (And.intro hi (And.intro hz (And.intro hsz hby)))
  clear hi hi2 hz hsz hby
  obtain ⟨ad, cap, rfl⟩ := h.form
  have HL := Hid.mk' (fun (W : World) (hb : Below w.heap.size w W) => h.later hb)
  have HE1 := Hid.mk' (fun (W : World) (hb : Below w.heap.size w W) => (hE.below hb).c1)
  have HE2 := Hid.mk' (fun (W : World) (hb : Below w.heap.size w W) => (hE.below hb).c2)
  clear h hE
  by_cases h4 : 4000 < l.length
  · have h4I : (4000 : Int) < (l.length : Int) := by omega
    have HC : Hid (phE l = (2, -1)) := by show _ = _; unfold phE; rw [if_pos h4]
    have e1 := HE1.out w (Below.refl _ _)
    go_enter Tryd.func13, Tryd.ntmps13
    go_wp2_with fail
    go_quiet (fail)
    go_wp2_with fail
    go_ret2
    exact ⟨_, _, rfl, by rw [HC.out]; exact Or.inl ⟨rfl, rfl, by decide⟩, (fun h => by rw [HC.out] at h; cases h), fun _ => rfl, below_drewN (Below.refl _ _) _⟩
  · have h4I : ¬ (4000 : Int) < (l.length : Int) := by omega
    have HC : Hid (phE l = match scanP l.length l 0 with | some i => (3, (i : Int)) | none => if 4000 < (phT l).length then (2, -1) else (0, -1)) := by show _ = _; unfold phE; rw [if_neg h4]; rfl
    go_enter Tryd.func13, Tryd.ntmps13
    go_wp2_with fail
    go_loopw [17] (fun t wr => ∃ k : Nat, k ≤ l.length ∧ t = .int .i64 (k : Int) ∧ Hid (Below w.heap.size w wr) ∧ Hid (scanP l.length l 0 = scanP l.length (l.drop k) k)) (fun t _ => l.length - (intOf t).toNat)
    case atStart => exact ⟨0, Nat.zero_le _, rfl, Below.refl _ _, rfl⟩
    case round =>
      obtain ⟨k, hk, rfl, HB, HS⟩ := hrel
      rcases Nat.lt_or_ge k l.length with h1 | h1
      · obtain ⟨c, hc⟩ : ∃ c, l[k]? = some c := ⟨_, List.getElem?_eq_getElem h1⟩
        obtain ⟨b, o, rfl, x0, x1, x2⟩ := (HL.out wr HB.out).at hc
        have hle := HB.out.size
        have hkI : (k : Int) < (l.length : Int) := by omega
        have hk0 : (0 : Int) ≤ (k : Int) := by omega
        have HS2 : Hid (scanP l.length l 0 = scanP l.length (c :: l.drop (k + 1)) k) := by show _ = _; rw [HS.out, dropP hc]
        obtain ⟨co, cn, ct⟩ := c
        cases hb : badP l.length k ⟨co, cn, ct⟩ with
        | true =>
          have HF : Hid (phE l = (3, (k : Int))) := by show _ = _; rw [HC.out, HS2.out, scanP_bad hb]
          have e2 := HE2.out (wr.alloc (.cells #[.int .i64 co, .int .u8 (cn.toNat : Int), .bool ct] 32)) (HB.out.alloc hle _)
          have hy := badP_yes hb
          clear hb hc
          simp only at x0 x1 x2 hy
          rcases hy with hy | ⟨hy, hz⟩ | ⟨hy, hz, hs, hr⟩
          · go_wp2_with fail
            go_region
            all_goals
              go_wp2_with fail
              go_ret2
              exact ⟨_, _, rfl, by rw [HF.out]; exact Or.inr ⟨_, rfl, by simp, by simp, by simp, by simp⟩, (fun h => by rw [HF.out] at h; cases h), fun _ => rfl, by first | exact ((HB.out.alloc hle _).alloc (by simp; omega) _) | exact ((HB.out.alloc hle _).alloc (by simp; omega) _).drew⟩
          · go_wp2_with fail
            go_region
            all_goals
              go_wp2_with fail
              go_ret2
              exact ⟨_, _, rfl, by rw [HF.out]; exact Or.inr ⟨_, rfl, by simp, by simp, by simp, by simp⟩, (fun h => by rw [HF.out] at h; cases h), fun _ => rfl, by first | exact ((HB.out.alloc hle _).alloc (by simp; omega) _) | exact ((HB.out.alloc hle _).alloc (by simp; omega) _).drew⟩
          · subst hs
            have hk1 : ((k : Int) < (l.length : Int) - 1) ∨ (¬ ((k : Int) < (l.length : Int) - 1) ∧ (co == 0) = true) ∨ (¬ ((k : Int) < (l.length : Int) - 1) ∧ (co == 0) = false ∧ ((cn.toNat : Int) != 0) = true) := by
              rcases hr with h1 | ⟨h1, h2⟩ | ⟨h1, h2, h3⟩
              · exact Or.inl (by omega)
              · exact Or.inr (Or.inl ⟨by omega, by rw [beq_iff_eq]; exact h2⟩)
              · exact Or.inr (Or.inr ⟨by omega, by rw [beq_eq_false_iff_ne]; omega, by rw [bne_iff_ne]; omega⟩)
            clear hr
            rcases hk1 with hk1 | ⟨hk1, hk2⟩ | ⟨hk1, hk2, hk3⟩
            all_goals
              go_wp2_with fail
              go_region
              all_goals
                go_wp2_with fail
                go_ret2
                exact ⟨_, _, rfl, by rw [HF.out]; exact Or.inr ⟨_, rfl, by simp, by simp, by simp, by simp⟩, (fun h => by rw [HF.out] at h; cases h), fun _ => rfl, by first | exact ((HB.out.alloc hle _).alloc (by simp; omega) _) | exact ((HB.out.alloc hle _).alloc (by simp; omega) _).drew⟩
        | false =>
          have HS3 : Hid (scanP l.length l 0 = scanP l.length (l.drop (k + 1)) (k + 1)) := by show _ = _; rw [HS2.out, scanP_ok hb]
          obtain ⟨y1, y2, y3⟩ := badP_no hb
          clear hb hc
          simp only at x0 x1 x2 y1 y2 y3
          have z1 : ¬ co < 0 := by omega
          have z2 : ¬ (k : Int) < co := by omega
          rcases y3 with rfl | ⟨rfl, y6, y7, y8⟩
          · go_wp2_with fail
            exact ⟨⟨k + 1, h1, by go_num, HB.out.alloc hle _, HS3.out⟩, by simp [intOf]; omega⟩
          · have hk1 : ¬ ((k : Int) < (l.length : Int) - 1) := by omega
            have hcn : ((cn.toNat : Int) != 0) = false := by rw [y8]; rfl
            have hco : (co == 0) = false := by rw [beq_eq_false_iff_ne]; omega
            clear y8
            go_wp2_with fail
            exact ⟨⟨k + 1, h1, by go_num, HB.out.alloc hle _, HS3.out⟩, by simp [intOf]; omega⟩
      · obtain rfl : k = l.length := by omega
        have hkI : ¬ (l.length : Int) < (l.length : Int) := by omega
        have HSN : Hid (scanP l.length l 0 = none) := by show _ = _; rw [HS.out, List.drop_length]; rfl
        have HC2 : Hid (phE l = if 4000 < (phT l).length then (2, -1) else (0, -1)) := by show _ = _; rw [HC.out, HSN.out]
        have HOK := Hid.mk' (fun (k : Nat) (p : PhI) (hp : l[k]? = some p) => scanP_at l 0 HSN.out k p hp)
        clear HC HS
        obtain ⟨W1, hW1⟩ : ∃ W1, W1 = wr := ⟨_, rfl⟩
        rw [← hW1] at HB ⊢
        clear hW1
        have hle1 := HB.out.size
        have HR0 : Hid (((W1.alloc (.cells #[.string ⟨#[]⟩] 9)).alloc (.cells #[.pointer none, .slice none 0 0] 68)).ownsRow w.heap.size 9 1 (.slice (some ⟨W1.heap.size, 0, none⟩) 1 1) 1 (strL [[]])) := (World.ownsRow_lit W1 #[.string ⟨#[]⟩] 1 hle1 (by unfold maxLen; omega) rfl).alloc _
        have HB0 : Hid (Below w.heap.size w ((W1.alloc (.cells #[.string ⟨#[]⟩] 9)).alloc (.cells #[.pointer none, .slice none 0 0] 68))) := (HB.out.alloc hle1 _).alloc (by simp; omega) _
        have HD0 : Hid (BldAt w.heap.size (W1.heap.size + 1) (Go.Lib.byteCells []) ((W1.alloc (.cells #[.string ⟨#[]⟩] 9)).alloc (.cells #[.pointer none, .slice none 0 0] 68))) := Or.inl ⟨by omega, .slice none 0 0, by
          have := (MapKept.heap_alloc (W1.alloc (.cells #[.string ⟨#[]⟩] 9)) (.cells #[.pointer none, .slice none 0 0] 68)).1
          simpa using this, World.ownsRowF_nil _ _ _ _, by simp [Value.ownBlock]⟩
        go_wp2_with fail
        go_loopw [6, 61] (fun sv x wr => ∃ (k : Nat) (K : List (List UInt8)) (out : List UInt8), k ≤ l.length ∧ x = .int .i64 (k : Int) ∧ out.length ≤ 4000 ∧ Hid (K.length = k + 1) ∧ Hid (∀ (i : Nat) (a : List UInt8), K[i]? = some a → a.length ≤ 4000) ∧ Hid (wr.ownsRow w.heap.size 9 1 sv (k + 1) (strL K)) ∧ Hid (BldAt w.heap.size (W1.heap.size + 1) (Go.Lib.byteCells out) wr) ∧ Hid (Below w.heap.size w wr) ∧ Hid (runP (l.drop k) (K, out) = phT l)) (fun _ x _ => l.length - (intOf x).toNat)
        case atStart => exact ⟨0, [[]], [], Nat.zero_le _, rfl, Nat.zero_le _, rfl, short_nil, HR0.out, HD0.out, HB0.out, rfl⟩
        case round =>
          clear HR0 HB0 HD0 HB
          obtain ⟨k, K, out, hk, rfl, hout, HKL, HKS, HR, HD, HB, HF⟩ := hrel
          have hle := HB.out.size
          rcases Nat.lt_or_ge k l.length with h1 | h1
          · obtain ⟨c, hc⟩ : ∃ c, l[k]? = some c := ⟨_, List.getElem?_eq_getElem h1⟩
            obtain ⟨b, o, rfl, x0, x1, x2⟩ := (HL.out wr HB.out).at hc
            have hkI : (k : Int) < (l.length : Int) := by omega
            have hk0 : (0 : Int) ≤ (k : Int) := by omega
            have hbad := HOK.out k c hc
            rw [Nat.zero_add] at hbad
            obtain ⟨y1, y2, y3⟩ := badP_no hbad
            have HFX : Hid (runP (l.drop (k + 1)) (K ++ [txtP K c], out ++ txtP K c) = phT l) := by show _ = _; rw [← HF.out, dropP hc]; rfl
            have HLE : Hid ((out ++ txtP K c).length ≤ (phT l).length) := by show _ ≤ _; rw [← HFX.out]; exact runP_le (l.drop (k + 1)) (K ++ [txtP K c], out ++ txtP K c)
            obtain ⟨f, hf⟩ : ∃ f : Nat, c.of = (f : Int) := ⟨c.of.toNat, by omega⟩
            have hfk : f ≤ k := by omega
            have HTX : Hid (txtP K c = if c.last = true then K.getD f [] else K.getD f [] ++ [c.next]) := by show txtP K c = _; unfold txtP; rw [hf, Int.toNat_natCast]
            rw [hf] at x0
            obtain ⟨g, cp, rfl, hg1, hg2⟩ := HR.out.form (by omega)
            have xt : wr.cell? ⟨g, f, none⟩ = some (.string ⟨(K.getD f []).toArray⟩) := by
              rw [HR.out.cellAt f (by omega)]
              exact strL_at (by rw [List.getD_eq_getElem?_getD, List.getElem?_eq_getElem (by rw [HKL.out]; omega)]; rfl)
            have hfI : (f : Int) < (k : Int) + 1 := by omega
            have hf0 : (0 : Int) ≤ (f : Int) := by omega
            have hKf : K[f]? = some (K.getD f []) := by rw [List.getD_eq_getElem?_getD, List.getElem?_eq_getElem (by rw [HKL.out]; omega)]; rfl
            have htl := HKS.out _ _ hKf
            clear hbad y1 y2 y3 hc hf hKf
            generalize K.getD f [] = t0 at *
            have hz0 : (⟨t0.toArray⟩ : ByteArray).size ≤ 4000 := by rw [ba_size]; exact htl
            cases hla : c.last with
            | true =>
              rw [hla] at HTX x2
              have HTX : Hid (txtP K c = t0) := HTX.out
              rw [HTX.out] at HFX HLE
              clear hla
              have HRV := Hid.mk' (HR.out.alloc (.cells #[.int .i64 (f : Int), .int .u8 (c.next.toNat : Int), .bool true] 32))
              have HDV : Hid (BldAt w.heap.size (W1.heap.size + 1) (Go.Lib.byteCells out) (wr.alloc (.cells #[.int .i64 (f : Int), .int .u8 (c.next.toNat : Int), .bool true] 32))) := Go.Lib.IsBuilderF.alloc HD.out _
              have HBV : Hid (Below w.heap.size w (wr.alloc (.cells #[.int .i64 (f : Int), .int .u8 (c.next.toNat : Int), .bool true] 32))) := HB.out.alloc hle _
              have hLen := BLen_any _ _ _ _ HDV.out
              rw [cells_len] at hLen
              go_wp2_with fail
              refine hLen.mono ?_
              clear hLen
              rintro e w2 ⟨rfl, hw2⟩
              rw [hw2]
              clear hw2
              have hts : (⟨t0.toArray⟩ : ByteArray).size = t0.length := ba_size _
              have HTS := Hid.mk' hts
              generalize hTT : t0 = tt at *
              clear hTT
              have HLL : Hid ((out ++ tt).length = out.length + tt.length) := List.length_append
              obtain ⟨V, hV⟩ : ∃ V, V = (wr.alloc (.cells #[.int .i64 (f : Int), .int .u8 (c.next.toNat : Int), .bool true] 32)) := ⟨_, rfl⟩
              rw [← hV] at HRV HDV HBV ⊢
              clear hV
              have hleV := HBV.out.size
              by_cases h5 : 4000 < out.length + tt.length
              · have HF0 : Hid (phE l = (2, -1)) := by show _ = _; rw [HC2.out, if_pos (by have := HLE.out; rw [HLL.out] at this; omega)]
                have h5I : (4000 : Int) < (out.length : Int) + (tt.length : Int) := by omega
                have e1 := HE1.out V HBV.out
                go_wp2_with fail
                go_quiet (fail)
                go_wp2_with fail
                go_ret2
                exact ⟨_, _, rfl, by rw [HF0.out]; exact Or.inl ⟨rfl, rfl, by decide⟩, (fun h => by rw [HF0.out] at h; cases h), fun _ => rfl, below_drewN HBV.out _⟩
              · have h5I : ¬ (4000 : Int) < (out.length : Int) + (tt.length : Int) := by omega
                have hWr := Write_any _ _ _ ⟨tt.toArray⟩ V HDV.out (by rw [cells_len, HTS.out]; omega) hleV
                go_wp2_with fail
                refine hWr.mono ?_
                clear hWr
                rintro e w3 ⟨rfl, hd3, hb3, hk3⟩
                rw [bytes_cells, cells_more] at hd3
                have HR3 := Hid.mk' ((lzrow_kept5 HRV.out HDV.out hk3).alloc (.cells #[.string ⟨tt.toArray⟩] 9))
                have HB3 := Hid.mk' (HBV.out.trans hb3)
                have hle3 := HB3.out.size
                have HB3a := Hid.mk' (HB3.out.alloc hle3 (.cells #[.string ⟨tt.toArray⟩] 9))
                have HD3 : Hid (BldAt w.heap.size (W1.heap.size + 1) (Go.Lib.byteCells (out ++ tt)) (w3.alloc (.cells #[.string ⟨tt.toArray⟩] 9))) := Go.Lib.IsBuilderF.alloc hd3 _
                clear hd3 hb3 hk3
                go_wp2_with (at_builtin; go_must (refine wpList_append_lies _ rfl _ _ _ rfl w.heap.size 9 i _ 1 16 Tryd.underlying59 HINS.out.1 HINS.out.2.1 HINS.out.2.2.1 HINS.out.2.2.2 rfl (by omega) (.slice (some ⟨g, 0, none⟩) (k + 1) cp) (k + 1) (strL K) rfl HR3.out ⟨w3.heap.size, 0, none⟩ 1 1 [.string ⟨tt.toArray⟩] rfl rfl (one_new w3 _ _) (by simp [Value.oneCell']) (by omega) (by unfold maxLen; omega) (by omega) (by simp; omega) _ rfl ?_; intro g' cap' w4 hown4 hgrow4 hat4 hlt4; have HW4 := Hid.mk' hown4; have HB4 := Hid.mk' (lz_push HB3a.out (by simp; omega) HR3.out hgrow4); have HD4 := Hid.mk' (BldAt.beside HD3.out HR3.out hgrow4); clear hown4 hgrow4 hat4))
                exact ⟨⟨k + 1, K ++ [tt], out ++ tt, h1, by go_num, by rw [HLL.out]; omega, by show _ = _; rw [List.length_append, HKL.out]; rfl, short_more HKS.out (by omega), by show World.ownsRow _ _ _ _ _ _ _; rw [strL_snoc]; exact HW4.out, HD4.out, HB4.out, HFX.out⟩, by simp [intOf]; omega⟩
            | false =>
              rw [hla] at HTX x2
              have HTX : Hid (txtP K c = (t0 ++ [c.next])) := HTX.out
              rw [HTX.out] at HFX HLE
              clear hla
              have HRV := Hid.mk' ((HR.out.alloc (.cells #[.int .i64 (f : Int), .int .u8 (c.next.toNat : Int), .bool false] 32)).alloc (.cells #[.int .u8 (c.next.toNat : Int)] 5))
              have HDV : Hid (BldAt w.heap.size (W1.heap.size + 1) (Go.Lib.byteCells out) ((wr.alloc (.cells #[.int .i64 (f : Int), .int .u8 (c.next.toNat : Int), .bool false] 32)).alloc (.cells #[.int .u8 (c.next.toNat : Int)] 5))) := Go.Lib.IsBuilderF.alloc (Go.Lib.IsBuilderF.alloc HD.out _) _
              have HBV : Hid (Below w.heap.size w ((wr.alloc (.cells #[.int .i64 (f : Int), .int .u8 (c.next.toNat : Int), .bool false] 32)).alloc (.cells #[.int .u8 (c.next.toNat : Int)] 5))) := (HB.out.alloc hle _).alloc (by simp; omega) _
              have hLen := BLen_any _ _ _ _ HDV.out
              rw [cells_len] at hLen
              have hcv := conv_one (wr.alloc (.cells #[.int .i64 (f : Int), .int .u8 (c.next.toNat : Int), .bool false] 32)) c.next
              have hcs : (wr.alloc (.cells #[.int .i64 (f : Int), .int .u8 (c.next.toNat : Int), .bool false] 32)).heap.size = wr.heap.size + 1 := by simp
              rw [hcs] at hcv
              clear hcs
              have hadd := ba_add t0 c.next
              go_wp2_with fail
              refine hLen.mono ?_
              clear hLen
              rintro e w2 ⟨rfl, hw2⟩
              rw [hw2]
              clear hw2 hcv hadd
              have hts : (⟨(t0 ++ [c.next]).toArray⟩ : ByteArray).size = (t0 ++ [c.next]).length := ba_size _
              have HTS := Hid.mk' hts
              have htb : (t0 ++ [c.next]).length ≤ 4001 := by rw [List.length_append]; simp; omega
              generalize hTT : (t0 ++ [c.next]) = tt at *
              clear hTT
              have HLL : Hid ((out ++ tt).length = out.length + tt.length) := List.length_append
              obtain ⟨V, hV⟩ : ∃ V, V = ((wr.alloc (.cells #[.int .i64 (f : Int), .int .u8 (c.next.toNat : Int), .bool false] 32)).alloc (.cells #[.int .u8 (c.next.toNat : Int)] 5)) := ⟨_, rfl⟩
              rw [← hV] at HRV HDV HBV ⊢
              clear hV
              have hleV := HBV.out.size
              by_cases h5 : 4000 < out.length + tt.length
              · have HF0 : Hid (phE l = (2, -1)) := by show _ = _; rw [HC2.out, if_pos (by have := HLE.out; rw [HLL.out] at this; omega)]
                have h5I : (4000 : Int) < (out.length : Int) + (tt.length : Int) := by omega
                have e1 := HE1.out V HBV.out
                go_wp2_with fail
                go_quiet (fail)
                go_wp2_with fail
                go_ret2
                exact ⟨_, _, rfl, by rw [HF0.out]; exact Or.inl ⟨rfl, rfl, by decide⟩, (fun h => by rw [HF0.out] at h; cases h), fun _ => rfl, below_drewN HBV.out _⟩
              · have h5I : ¬ (4000 : Int) < (out.length : Int) + (tt.length : Int) := by omega
                have hWr := Write_any _ _ _ ⟨tt.toArray⟩ V HDV.out (by rw [cells_len, HTS.out]; omega) hleV
                go_wp2_with fail
                refine hWr.mono ?_
                clear hWr
                rintro e w3 ⟨rfl, hd3, hb3, hk3⟩
                rw [bytes_cells, cells_more] at hd3
                have HR3 := Hid.mk' ((lzrow_kept5 HRV.out HDV.out hk3).alloc (.cells #[.string ⟨tt.toArray⟩] 9))
                have HB3 := Hid.mk' (HBV.out.trans hb3)
                have hle3 := HB3.out.size
                have HB3a := Hid.mk' (HB3.out.alloc hle3 (.cells #[.string ⟨tt.toArray⟩] 9))
                have HD3 : Hid (BldAt w.heap.size (W1.heap.size + 1) (Go.Lib.byteCells (out ++ tt)) (w3.alloc (.cells #[.string ⟨tt.toArray⟩] 9))) := Go.Lib.IsBuilderF.alloc hd3 _
                clear hd3 hb3 hk3
                go_wp2_with (at_builtin; go_must (refine wpList_append_lies _ rfl _ _ _ rfl w.heap.size 9 i _ 1 16 Tryd.underlying59 HINS.out.1 HINS.out.2.1 HINS.out.2.2.1 HINS.out.2.2.2 rfl (by omega) (.slice (some ⟨g, 0, none⟩) (k + 1) cp) (k + 1) (strL K) rfl HR3.out ⟨w3.heap.size, 0, none⟩ 1 1 [.string ⟨tt.toArray⟩] rfl rfl (one_new w3 _ _) (by simp [Value.oneCell']) (by omega) (by unfold maxLen; omega) (by omega) (by simp; omega) _ rfl ?_; intro g' cap' w4 hown4 hgrow4 hat4 hlt4; have HW4 := Hid.mk' hown4; have HB4 := Hid.mk' (lz_push HB3a.out (by simp; omega) HR3.out hgrow4); have HD4 := Hid.mk' (BldAt.beside HD3.out HR3.out hgrow4); clear hown4 hgrow4 hat4))
                exact ⟨⟨k + 1, K ++ [tt], out ++ tt, h1, by go_num, by rw [HLL.out]; omega, by show _ = _; rw [List.length_append, HKL.out]; rfl, short_more HKS.out (by omega), by show World.ownsRow _ _ _ _ _ _ _; rw [strL_snoc]; exact HW4.out, HD4.out, HB4.out, HFX.out⟩, by simp [intOf]; omega⟩
          · obtain rfl : k = l.length := by omega
            have hkI : ¬ (l.length : Int) < (l.length : Int) := by omega
            have HE : Hid (out = phT l) := by have := HF.out; rw [List.drop_length] at this; exact this
            have HF0 : Hid (phE l = (0, -1)) := by show _ = _; rw [HC2.out, if_neg (by rw [← HE.out]; omega)]
            have hST := BString_any _ _ out wr HD.out hle
            have HB2 := HB
            go_wp2_with fail
            refine hST.mono ?_
            clear hST
            rintro e w2 ⟨rfl, hb2⟩
            have HB3 := Hid.mk' (HB2.out.trans hb2)
            clear hb2
            go_wp2_with fail
            go_ret2
            exact ⟨_, _, rfl, by rw [HF0.out]; exact Or.inl ⟨rfl, rfl, by decide⟩, fun _ => by rw [HE.out], (fun h => by rw [HF0.out] at h; exact absurd rfl h), HB3.out⟩
end Go.Proofs.YtiocbnjdmceadaaDoor
