/- machine.longer: the programs of n bytes that are to be looked at. -/
import Derived.Test.YtdfcipdknfebpaaDoorMacR
namespace Go.Proofs.YtdfcipdknfebpaaDoor
open Go.RowKit

/-- A program and what it writes, in memory. -/
def wrE (p : Pg) : List Value := [.string (bt (fla p)), .string (bt (stp p))]
def wrC (l : List Pg) : List Value := l.flatMap wrE
theorem wrC_len (l : List Pg) : (wrC l).length = l.length * 2 := by
  induction l with
  | nil => rfl
  | cons k l ih => simp only [wrC, List.flatMap_cons, List.length_append] at ih ⊢; rw [ih]; simp [wrE]; omega
theorem wrC_app (a b : List Pg) : wrC (a ++ b) = wrC a ++ wrC b := by simp [wrC]
theorem wrC_snoc (l : List Pg) (p : Pg) : wrC (l ++ [p]) = wrC l ++ [.string (bt (fla p)), .string (bt (stp p))] := by simp [wrC, wrE]
theorem wrC_at : ∀ (l : List Pg) (i : Nat) (p : Pg), l[i]? = some p → (wrC l)[i * 2]? = some (.string (bt (fla p))) ∧ (wrC l)[i * 2 + 1]? = some (.string (bt (stp p)))
  | [], i, k, h => by simp at h
  | a :: p, 0, k, h => by obtain rfl : a = k := by simpa using h
                          exact ⟨rfl, rfl⟩
  | a :: p, i + 1, k, h => by
    have := wrC_at p i k (by simpa using h)
    have e : wrC (a :: p) = .string (bt (fla a)) :: .string (bt (stp a)) :: wrC p := rfl
    rw [e, show (i + 1) * 2 = i * 2 + 1 + 1 by omega]
    simpa using this
/-- A level in memory. -/
abbrev OwnW (W : World) (B : Nat) (v : Value) (l : List Pg) : Prop := W.ownsRow B 79 2 v l.length (wrC l)
/-- The levels in memory. -/
def LvAt (W : World) (B : Nat) (v : Value) (L : List (List Pg)) : Prop := ∃ vs : List Value, W.ownsRow B 75 1 v L.length vs ∧ ∀ (i : Nat) (l : List Pg), L[i]? = some l → ∃ u, vs[i]? = some u ∧ OwnW W B u l
theorem LvAt.later {W W' : World} {B : Nat} {v : Value} {L : List (List Pg)} (h : LvAt W B v L) (hb : Below W.heap.size W W') : LvAt W' B v L := by
  obtain ⟨vs, h1, h2⟩ := h
  exact ⟨vs, own_laterM h1 hb, fun i l hi => by obtain ⟨u, h3, h4⟩ := h2 i l hi; exact ⟨u, h3, own_laterM h4 hb⟩⟩
theorem own_form {W : World} {B : Nat} {e : TypeId} {sz n : Nat} {v : Value} {xs : List Value} (h : W.ownsRow B e sz v n xs) : ∃ ad cap, v = .slice ad n cap ∧ (0 < n → ∃ g, ad = some ⟨g, 0, none⟩) := by
  rcases h.2 with ⟨h1, h2⟩ | ⟨g, cap, cur, h1, _⟩
  · exact ⟨none, 0, by rw [h1, h2], fun h => by omega⟩
  · exact ⟨_, cap, h1, fun _ => ⟨g, rfl⟩⟩
theorem Tryd.infoWr : (Tryd.prog.info? 79).map (fun i => (i.zero, i.size, i.bytes)) = some (some (.agg #[.string ⟨#[]⟩, .string ⟨#[]⟩]), 2, 32) := by kernel_rfl
/-- A program that is short enough. -/
def smallP (p : Pg) : Prop := (fla p).length ≤ 16 ∧ (stp p).length ≤ 24

theorem heap_newM (w : World) (o : Obj) : (w.alloc o).heap[w.heap.size]? = some o := by show (w.heap.push o)[w.heap.size]? = _; simp
set_option maxRecDepth 100000 in
set_option maxHeartbeats 8000000 in
theorem longer_any (L : List (List Pg)) (n : Nat) (v : Value) (B : Nat) (w : World) (h : LvAt w B v L) (hn : n ≤ 16) (hL : L.length = n) (hsm : ∀ l ∈ L, l.length ≤ 1000 ∧ ∀ p ∈ l, smallP p) :
    Calls Tryd.prog 39 #[v, .int .i64 (n : Int)] w fun e w' => ∃ d, e = .returned d ∧ OwnW w' w.heap.size d (lon L n) ∧ Below w.heap.size w w' := by
  by_cases hn0 : n = 0
  · subst hn0
    go_enter Tryd.func39, Tryd.ntmps39
    go_wp2_with fail
    go_ret
    refine ⟨_, rfl, ⟨rfl, Or.inr ⟨w.heap.size, 1, _, rfl, Nat.le_refl _, heap_newM _ _, Nat.le_refl _, by unfold maxLen; omega, rfl, rfl⟩⟩, (Below.refl _ _).alloc (Nat.le_refl _) _⟩
  · obtain ⟨i0, hi, hz0, hz1, hz2⟩ := info_parts Tryd.infoWr
    have HINF : Hid (Tryd.prog.info? 79 = some i0 ∧ i0.zero = some (.agg #[.string ⟨#[]⟩, .string ⟨#[]⟩]) ∧ i0.size = 2 ∧ i0.bytes = 32) := ⟨hi, hz0, hz1, hz2⟩
    clear hi hz0 hz1 hz2
    have hnB : ((n : Int) == 0) = false := by simp; exact hn0
    have hnI : (n : Int) ≤ 16 := by omega
    have HP := Hid.mk' (parts_any w)
    have HLV := Hid.mk' h
    have HSM := Hid.mk' hsm
    have HLL := Hid.mk' hL
    have HN0 := Hid.mk' hn0
    have HLON : Hid (lon L n = six.flatMap (lonL L n)) := if_neg hn0
    obtain ⟨vs0, hv1, hv2⟩ := h
    obtain ⟨adv, capv, rfl, hadv⟩ := own_form hv1
    clear hv1 hv2 hsm hn0
    rw [hL] at hadv HLV ⊢
    obtain ⟨gv, rfl⟩ := hadv (by have := HN0.out; omega)
    go_enter Tryd.func39, Tryd.ntmps39
    go_wp2_with fail
    refine HP.out.mono ?_
    clear HP
    rintro e W1 ⟨rfl, hT1, hB1, hs1⟩
    have HT1 := Hid.mk' hT1
    have HB1 := Hid.mk' hB1
    have HS1 := Hid.mk' hs1
    have HLV1 := Hid.mk' (HLV.out.later hB1)
    clear hT1 hB1 hs1 HLV
    go_wp2_with fail
    go_loopw [5, 17] (fun d t wr => ∃ i : Nat, i ≤ 6 ∧ t = .int .i64 (i : Int) ∧ Hid (OwnW wr W1.heap.size d ((six.take i).flatMap (lonL L n))) ∧ Hid (((six.take i).flatMap (lonL L n)).length ≤ 1000 * i) ∧ Hid (Below W1.heap.size W1 wr)) (fun _ t _ => 6 - (intOf t).toNat)
    case atStart => exact ⟨0, Nat.zero_le _, rfl, ⟨rfl, Or.inl ⟨rfl, rfl⟩⟩, Nat.le_refl _, Below.refl _ _⟩
    case round =>
      obtain ⟨i, hi6, rfl, HO, HLE, HB⟩ := hrel
      have hi0 : (0 : Int) ≤ (i : Int) := by omega
      rcases Nat.lt_or_ge i 6 with h1 | h1
      · have hiI : (i : Int) < 6 := by omega
        obtain ⟨k, hk⟩ : ∃ k : Fin 6, k.val = i := ⟨⟨i, h1⟩, rfl⟩
        have hTk := (HT1.out.later HB.out) k
        rw [hk] at hTk
        obtain ⟨x0, x1⟩ := hTk
        have HTKE : Hid ((six.take (i + 1)).flatMap (lonL L n) = (six.take i).flatMap (lonL L n) ++ lonL L n k) := by
          show _ = _
          have : six.take (i + 1) = six.take i ++ [k] := by
            have h6 : six[i]? = some k := by
              have : six[k.val]? = some k := all6 (P := fun k => six[k.val]? = some k) rfl rfl rfl rfl rfl rfl k
              rwa [hk] at this
            rw [List.take_add_one, h6]; rfl
          rw [this]; simp
        have hzm := bt_size (mW k)
        have hmp := mW_pos k
        rcases Nat.lt_or_ge n (mW k).length with hlt | hge
        · have HE : Hid (lonL L n k = []) := if_neg (by omega)
          generalize hmm : (mW k).length = m at *
          have hmI : (n : Int) < (m : Int) := by omega
          have hmJ : (m : Int) ≤ 3 := by omega
          generalize bt (mW k) = M at *
          generalize mFn k = fnc at *
          go_wp2_with fail
          go_roundw
          case rel => exact ⟨i + 1, by omega, by simp, by show OwnW _ _ _ _; rw [HTKE.out, HE.out, List.append_nil]; exact HO.out.alloc _, by show _ ≤ _; rw [HTKE.out, HE.out, List.append_nil]; have := HLE.out; omega, HB.out.alloc HB.out.size _⟩
          case measure => simp [intOf]; omega
        · obtain ⟨q, hq⟩ : ∃ q, q = n - (mW k).length := ⟨_, rfl⟩
          obtain ⟨l, hl⟩ : ∃ l, L[q]? = some l := ⟨_, List.getElem?_eq_getElem (by have := HLL.out; omega)⟩
          have HE : Hid (lonL L n k = l.map (· ++ [k])) := by
            show _ = _
            unfold lonL
            rw [if_pos hge, ← hq, List.getD_eq_getElem?_getD, hl]; rfl
          obtain ⟨hl1, hl2⟩ := HSM.out l (List.mem_of_getElem? hl)
          obtain ⟨vs, hvo, hvu⟩ := HLV1.out
          obtain ⟨u, hu1, hu2⟩ := hvu q l hl
          obtain ⟨adl, capl, rfl, hadl⟩ := own_form hu2
          have HU := Hid.mk' hu2
          have HL2 := Hid.mk' hl2
          have HADL := Hid.mk' hadl
          have y0 : wr.cell? ⟨gv, q, none⟩ = some (.slice adl l.length capl) := (own_cell (own_laterM hvo HB.out) (by have := HLL.out; omega)).trans hu1
          have y1 : (wr.alloc (.cells (ptE k).toArray 44)).cell? ⟨gv, q, none⟩ = some (.slice adl l.length capl) := by rw [World.cell?_alloc_lt _ _ _ (cell_lt y0)]; exact y0
          have hen := do_enters k
          have HDO : Hid (∀ p W, smallP p → Calls Tryd.prog (mFn k) #[.string (bt (stp p))] W fun e w' => e = .returned (.string (bt (stp (p ++ [k])))) ∧ Below W.heap.size W w') := fun p W hp => by
            have := do_any k (stp p) W (by have := hp.2; omega) (stp_bit p)
            rwa [← stp_snoc] at this
          have HCAT : Hid (∀ p, bt (fla p) ++ bt (mW k) = bt (fla (p ++ [k]))) := fun p => by rw [bt_app, fla_snoc]
          unfold ptE at y1
          clear hl hl2 hvo hvu hu1 hu2 hadl y0
          generalize hmm : (mW k).length = m at *
          have hqI : (n : Int) - (m : Int) = (q : Int) := by omega
          have hqJ : (0 : Int) ≤ (q : Int) := by omega
          have hqK : (q : Int) < (n : Int) := by omega
          clear hq hge
          obtain ⟨hm2, hm3⟩ := hmp
          generalize bt (mW k) = M at *
          generalize mFn k = fnc at *
          obtain ⟨wo, rfl⟩ : ∃ wo, wr = wo := ⟨_, rfl⟩
          obtain ⟨C, hC⟩ : ∃ C, C = (six.take i).flatMap (lonL L n) := ⟨_, rfl⟩
          rw [← hC] at HO HTKE HLE
          clear hC
          go_wp2_with fail
          have HXB : Hid ((wr.alloc (.cells #[.string M, .func (.func fnc) #[] #[]] 44)).heap[wr.heap.size]? = some (.cells #[.string M, .func (.func fnc) #[] #[]] 44)) := heap_newM _ _
          have HBX : Hid (Below W1.heap.size W1 (wr.alloc (.cells #[.string M, .func (.func fnc) #[] #[]] 44))) := HB.out.alloc HB.out.size _
          have HOX := Hid.mk' (HO.out.alloc (.cells #[.string M, .func (.func fnc) #[] #[]] 44))
          have hllI : (l.length : Int) ≤ 1000 := by omega
          clear y1 x0 x1 HO HB
          generalize wr.alloc (.cells #[.string M, .func (.func fnc) #[] #[]] 44) = W2 at *
          generalize wr.heap.size = bx at *
          go_loopw [5, 33] (fun d t wi => ∃ j : Nat, j ≤ l.length ∧ t = .int .i64 (j : Int) ∧ Hid (OwnW wi W1.heap.size d (C ++ (l.take j).map (· ++ [k]))) ∧ Hid (wi.heap[bx]? = some (.cells #[.string M, .func (.func fnc) #[] #[]] 44)) ∧ Hid (Below W1.heap.size W1 wi)) (fun _ t _ => l.length - (intOf t).toNat)
          case atStart => exact ⟨0, Nat.zero_le _, rfl, by show OwnW _ _ _ _; rw [List.take_zero, List.map_nil, List.append_nil]; exact HOX.out, HXB, HBX⟩
          case round =>
            obtain ⟨j, hj, rfl, HOI, HXI, HBI⟩ := hrel
            have hj0 : (0 : Int) ≤ (j : Int) := by omega
            rcases Nat.lt_or_ge j l.length with h2 | h2
            · have hjI : (j : Int) < (l.length : Int) := by omega
              obtain ⟨p, hp⟩ : ∃ p, l[j]? = some p := ⟨_, List.getElem?_eq_getElem h2⟩
              obtain ⟨gl, rfl⟩ := HADL.out (by omega)
              have hsp := HL2.out p (List.mem_of_getElem? hp)
              obtain ⟨hc0, hc1⟩ := wrC_at l j p hp
              have hoU := own_laterM HU.out HBI.out
              have z0 : wr.cell? ⟨gl, j * 2, none⟩ = some (.string (bt (fla p))) := (own_cell hoU (by omega)).trans hc0
              have z1 : wr.cell? ⟨gl, j * 2 + 1, none⟩ = some (.string (bt (stp p))) := (own_cell hoU (by omega)).trans hc1
              have HNX : Hid (C ++ (l.take (j + 1)).map (· ++ [k]) = (C ++ (l.take j).map (· ++ [k])) ++ [p ++ [k]]) := by
                show _ = _
                have : l.take (j + 1) = l.take j ++ [p] := by rw [List.take_add_one, hp]; rfl
                rw [this, List.map_append, ← List.append_assoc]; rfl
              have HD := Hid.mk' (fun W => HDO.out p W hsp)
              have hcat := HCAT.out p
              have hzF := bt_size (fla p)
              have hF16 : (bt (fla p)).size ≤ 16 := by rw [hzF]; exact hsp.1
              clear hzF hp hc0 hc1 hoU
              have HWC : Hid (wrC ((C ++ (l.take j).map (· ++ [k])) ++ [p ++ [k]]) = wrC (C ++ (l.take j).map (· ++ [k])) ++ [.string (bt (fla (p ++ [k]))), .string (bt (stp (p ++ [k])))]) := wrC_snoc _ _
              have HCL : Hid ((C ++ (l.take j).map (· ++ [k])).length ≤ 100000) := by
                show _ ≤ _
                rw [List.length_append, List.length_map, List.length_take]
                have := HLE.out
                omega
              generalize C ++ (l.take j).map (· ++ [k]) = CJ at *
              generalize bt (fla p) = Fp at *
              generalize bt (stp p) = Sp at *
              generalize bt (fla (p ++ [k])) = Fq at *
              generalize bt (stp (p ++ [k])) = Sq at *
              have HL1 : Hid (CJ.length + 1 ≤ maxLen) := by show _ ≤ _; have := HCL.out; unfold maxLen; omega
              have HL2b : Hid ((CJ.length + 1) * 32 ≤ 140737488355328) := by show _ ≤ _; have := HCL.out; omega
              obtain ⟨W3, hW3⟩ : ∃ W3, W3 = wr.alloc (.cells #[.string Fp, .string Sp] 79) := ⟨_, rfl⟩
              have hxl := (Array.getElem?_eq_some_iff.1 HXI.out).1
              have HO3 : Hid (OwnW W3 W1.heap.size u5 CJ) := by rw [hW3]; exact HOI.out.alloc _
              have HX3 : Hid (W3.heap[bx]? = some (.cells #[.string M, .func (.func fnc) #[] #[]] 44)) := by show _ = _; rw [hW3, Below.heap_alloc _ _ _ hxl]; exact HXI.out
              have HY3 : Hid (W3.heap[wr.heap.size]? = some (.cells #[.string Fp, .string Sp] 79)) := by show _ = _; rw [hW3]; exact heap_newM _ _
              have HB3 : Hid (Below W1.heap.size W1 W3) := by rw [hW3]; exact HBI.out.alloc HBI.out.size _
              have hs3 : W3.heap.size = wr.heap.size + 1 := by rw [hW3]; simp
              have HKS : Hid (∀ W : World, W.heap[bx]? = some (.cells #[.string M, .func (.func fnc) #[] #[]] 44) → W.heap[wr.heap.size]? = some (.cells #[.string Fp, .string Sp] 79) → W.cell? ⟨wr.heap.size, 0, none⟩ = some (.string Fp) ∧ W.cell? ⟨wr.heap.size, 1, none⟩ = some (.string Sp) ∧ W.cell? ⟨bx, 0, none⟩ = some (.string M) ∧ W.cell? ⟨bx, 1, none⟩ = some (.func (.func fnc) #[] #[])) := fun W h3 h4 => ⟨by simp [World.cell?, h4], by simp [World.cell?, h4], by simp [World.cell?, h3], by simp [World.cell?, h3]⟩
              have hcur : Below W3.heap.size W3 W3.drew := (Below.refl _ _).drew
              have HKB : Hid (∀ W, Below W3.heap.size W3 W → W.cell? ⟨wr.heap.size, 0, none⟩ = some (.string Fp) ∧ W.cell? ⟨wr.heap.size, 1, none⟩ = some (.string Sp) ∧ W.cell? ⟨bx, 0, none⟩ = some (.string M) ∧ W.cell? ⟨bx, 1, none⟩ = some (.func (.func fnc) #[] #[])) := fun W hb => HKS.out W (by rw [hb.block bx (by omega)]; exact HX3.out) (by rw [hb.block wr.heap.size (by omega)]; exact HY3.out)
              have c0 := (HKB.out W3 (Below.refl _ _)).1
              have HNB : Hid (∀ g, u5.ownBlock = some g → g ≠ bx ∧ g ≠ wr.heap.size) := fun g hg => by
                refine ⟨?_, fun e => by have := (HOI.out.lt g hg).2; omega⟩
                rintro rfl
                rcases HOI.out.2 with ⟨h3, _⟩ | ⟨g', cap', cur, h3, _, h4, _⟩
                · rw [h3] at hg; simp [Value.ownBlock] at hg
                · rw [h3] at hg
                  simp [Value.ownBlock] at hg
                  rw [hg, HXI.out] at h4
                  simp at h4
              have HXL : Hid (bx < W3.heap.size) := by show _ < _; omega
              have HYL : Hid (wr.heap.size < W3.heap.size) := by show _ < _; omega
              clear hxl
              have HK6 : Hid (∀ (W5 w6 : World), Below W3.heap.size W3 W5 → W5.grownBy w6 u5.ownBlock → w6.cell? ⟨wr.heap.size, 0, none⟩ = some (.string Fp) ∧ w6.cell? ⟨wr.heap.size, 1, none⟩ = some (.string Sp) ∧ w6.cell? ⟨bx, 0, none⟩ = some (.string M) ∧ w6.cell? ⟨bx, 1, none⟩ = some (.func (.func fnc) #[] #[])) := fun W5 w6 h5 h6 => HKS.out w6 (by rw [h6.block bx (Nat.lt_of_lt_of_le HXL.out h5.size) (fun e => (HNB.out bx e.symm).1 rfl), h5.block bx HXL.out]; exact HX3.out) (by rw [h6.block wr.heap.size (Nat.lt_of_lt_of_le HYL.out h5.size) (fun e => (HNB.out _ e.symm).2 rfl), h5.block wr.heap.size HYL.out]; exact HY3.out)
              have hadd : ∀ W, (Op.stringOp .add Fp M).run Tryd.prog W = .ok (.string Fq) W := fun W => by rw [← hcat]; exact run_string_add_sum (P := Tryd.prog) (w := W) (a := Fp) (b := M) (h := by rw [hzm]; omega)
              clear hcat
              go_wp2_with fail
              rw [← hW3]
              clear hW3
              go_region_held3 (fun W => W.cell? ⟨wr.heap.size, 0, none⟩ = some (.string Fp) ∧ W.cell? ⟨wr.heap.size, 1, none⟩ = some (.string Sp) ∧ W.cell? ⟨bx, 0, none⟩ = some (.string M) ∧ W.cell? ⟨bx, 1, none⟩ = some (.func (.func fnc) #[] #[]))
                (first | exact HKB.out _ hcur | exact HKB.out _ hbw4 | exact HKB.out _ hbw5 | exact HK6.out _ _ hbw5 hgrow6)
                (first
                  | (go_at_fn fnc; refine (HD.out _).mono ?_; rintro e w4 ⟨rfl, hb4⟩; have hbw4 := below_chain hcur hb4; have hbw5 : Below W3.heap.size W3 (w4.alloc (.cells #[.string Fq, .string Sq] 79)) := hbw4.alloc hbw4.size _; clear hb4)
                  | (refine step_append_lies _ (by rfl) _ _ _ (by rfl) W1.heap.size 79 i0 _ 2 32 Tryd.underlying75 HINF.out.1 HINF.out.2.1 HINF.out.2.2.1 HINF.out.2.2.2 rfl (by decide) u5 _ _ (by rfl) (own_laterM HO3.out hbw5) ⟨w4.heap.size, 0, none⟩ 1 1 [.string Fq, .string Sq] (by rfl) rfl (two_newM _ _ _ _) (one_two rfl rfl) (by decide) HL1.out HL2b.out (Nat.le_trans HB3.out.size hbw5.size) _ rfl ?_; intro g' cap' w6 hown6 hgrow6 hat6 hlt6))
              have HO6 := Hid.mk' hown6
              have HG6 := Hid.mk' hgrow6
              clear hown6 hgrow6 hat6
              have HX6 : Hid (w6.heap[bx]? = some (.cells #[.string M, .func (.func fnc) #[] #[]] 44)) := by
                show _ = _
                rw [HG6.out.block bx (Nat.lt_of_lt_of_le HXL.out hbw5.size) (fun e => (HNB.out bx e.symm).1 rfl), hbw5.block bx HXL.out]; exact HX3.out
              have HB6 : Hid (Below W1.heap.size W1 w6) := (HB3.out.trans (hbw5.mono HB3.out.size)).grown HG6.out (Nat.le_trans HB3.out.size hbw5.size) (fun q e => (HO3.out.lt q e).1)
              have HO7 : Hid (OwnW w6 W1.heap.size (.slice (some ⟨g', 0, none⟩) (CJ.length + 1) cap') (CJ ++ [p ++ [k]])) := by
                show World.ownsRow _ _ _ _ _ _ _
                rw [HWC.out, List.length_append]
                exact HO6.out
              go_wp2_with fail
              go_roundw
              case rel => exact ⟨j + 1, by omega, by simp, by show OwnW _ _ _ _; rw [HNX.out]; exact HO7.out, HX6, HB6⟩
              case measure => simp [intOf]; omega
            · obtain rfl : j = l.length := by omega
              rw [List.take_length] at HOI
              go_wp2_with fail
              go_roundw
              case rel => exact ⟨i + 1, by omega, by simp, by show OwnW _ _ _ _; rw [HTKE.out, HE.out]; exact HOI.out, by show _ ≤ _; rw [HTKE.out, HE.out, List.length_append, List.length_map]; have := HLE.out; omega, HBI⟩
              case measure => simp [intOf]; omega
      · obtain rfl : i = 6 := by omega
        have HE : Hid ((six.take 6).flatMap (lonL L n) = lon L n) := by show _ = _; rw [HLON.out]; rfl
        go_wp2_with fail
        go_ret
        exact ⟨_, rfl, by rw [← HE.out]; exact own_base HO.out HB1.out.size, below_chain HB1.out HB.out⟩
end Go.Proofs.YtdfcipdknfebpaaDoor
