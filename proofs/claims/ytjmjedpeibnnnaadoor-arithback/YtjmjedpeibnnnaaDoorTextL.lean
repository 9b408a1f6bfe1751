/- The shortest text of an interval, digit by digit: (arith.span).text. -/
import Derived.Test.YtjmjedpeibnnnaaDoorTextP
import Derived.BigQuiet
namespace Go.Proofs.YtjmjedpeibnnnaaDoor
open Go.RowKit

theorem Tryd.infoByte : (Tryd.prog.info? 5).map (fun i => (i.zero, i.size, i.bytes)) = some (some (.int .u8 0), 1, 1) := by kernel_rfl
def byteCells (l : List UInt8) : List Value := l.map fun c => .int .u8 ((c.toNat : Nat) : Int)
theorem NatAt.kept {w w' : World} {row : Option Nat} {v : Value} {n : Nat} (h : NatAt w v n) (hg : w.grownBy w' row) (ho : ∀ b o l c, v = .slice (some ⟨b, o, none⟩) l c → 0 < l → some b ≠ row) : NatAt w' v n := by
  obtain ⟨x, h1, h2, h3, hx⟩ := h
  refine ⟨x, h1, h2, h3, ?_⟩
  rcases hx with hx | ⟨b, o, cap, e1, e2, e3, e4⟩
  · exact Or.inl hx
  · refine Or.inr ⟨b, o, cap, e1, e2, e3, fun i hi => ?_⟩
    rw [World.cell?_of_block (hg.block b (cell_lt (e4 i hi)) (ho b o _ cap e1 e3))]
    exact e4 i hi
theorem NatNew.kept {B e : Nat} {w wr w' : World} {X : Obj} {d v : Value} {n j : Nat} {xs : List Value} (h : NatNew wr.heap.size w v n) (hd : wr.ownsRow B e 1 d j xs) (hg : (w.alloc X).grownBy w' d.ownBlock) : NatAt w' v n :=
  (h.1.later ((Below.refl _ _).alloc (Nat.le_refl _) X)).kept hg fun b o l c hv hl hb => by
    have h1 := h.2 b o l c hv hl
    have h2 := (hd.lt b hb.symm).2
    omega
theorem bfill_of {w wr : World} {B j : Nat} {d : Value} {l : List UInt8} (h : wr.ownsRow B 5 1 d j (byteCells l)) (hj : 0 < j) (hB : w.heap.size ≤ B) (hb : Below w.heap.size w wr) : ∃ g cap, d = .slice (some ⟨g, 0, none⟩) j cap ∧ BFill w wr g l := by
  obtain ⟨g, cap, rfl, h1, h2⟩ := h.form hj
  have hl : l.length = j := by have := h.1; simpa [byteCells] using this
  refine ⟨g, cap, rfl, fun i hi => ?_, fun i hi => h.frozenAt i, hb, by omega⟩
  rw [h.cellAt i (by omega)]
  simp [byteCells, hi]
theorem bytes_text {w wr : World} {g : Nat} {l : List UInt8} (h : BFill w wr g l) (cap n : Nat) (hn : l.length = n) : (convert 118 9 (.slice (some ⟨g, 0, none⟩) n cap)).run Tryd.prog wr = .ok (.string ⟨l.toArray⟩) wr := by
  have h1 := run_convert_bytes_arg (P := Tryd.prog) wr 118 5 Tryd.underlying118 Tryd.underlying5 g 0 n cap (l.map fun c => (c.toNat : Int)) (by rw [List.length_map, hn]) (fun i hi => by
    rw [Nat.zero_add, h.row i (by omega)]
    simp [List.getD, hn, hi]) 9 Tryd.underlying9
  rw [h1, strOfNums, List.map_map, show ((fun n : Int => UInt8.ofNat n.toNat) ∘ fun c : UInt8 => (c.toNat : Int)) = id from funext fun c => by simp, List.map_id]
theorem nil_text (wr : World) : (convert 118 9 (.slice none 0 0)).run Tryd.prog wr = .ok (.string ⟨#[]⟩) wr := by
  unfold convert
  simp [Sem.run_bind]
  rfl
theorem NatAt.len {w : World} {v : Value} {n : Nat} (h : NatAt w v n) : ∃ ad l cap, v = .slice ad l cap ∧ (l = 0 ↔ n = 0) := by
  obtain ⟨x, hx1, hx2, hxv, hx⟩ := h
  obtain ⟨ad, cap, rfl⟩ := hx.form
  refine ⟨ad, x.length, cap, rfl, ?_⟩
  constructor
  · intro h; rw [← hxv, List.eq_nil_of_length_eq_zero h]; rfl
  · intro h
    have h2 := wlen_le_of_lt hx2 (k := 0) (by rw [hxv, h]; decide)
    omega
theorem row_text {wr : World} {B j : Nat} {d : Value} {l : List UInt8} (h : wr.ownsRow B 5 1 d j (byteCells l)) : (convert 118 9 d).run Tryd.prog wr = .ok (.string ⟨l.toArray⟩) wr := by
  have hl : l.length = j := by have := h.1; simpa [byteCells] using this
  rcases h.2 with ⟨rfl, h0⟩ | ⟨g, cap, cur, rfl, hb, hg, _⟩
  · rw [List.eq_nil_of_length_eq_zero (hl.trans h0)]; exact nil_text wr
  · have h1 := run_convert_bytes_arg (P := Tryd.prog) wr 118 5 Tryd.underlying118 Tryd.underlying5 g 0 j cap (l.map fun c => (c.toNat : Int)) (by rw [List.length_map, hl]) (fun i hi => by
      rw [Nat.zero_add, h.cellAt i (by omega)]
      simp [byteCells, List.getD, hl, hi]) 9 Tryd.underlying9
    rw [h1, strOfNums, List.map_map, show ((fun n : Int => UInt8.ofNat n.toNat) ∘ fun c : UInt8 => (c.toNat : Int)) = id from funext fun c => by simp, List.map_id]
theorem NatNew.mono' {B B' : Nat} {w w' : World} {v : Value} {n : Nat} (h : NatNew B w v n) (hB : B' ≤ B) (hb : Below w.heap.size w w') : NatNew B' w' v n :=
  ⟨h.1.later hb, fun b o l c hv hl => Nat.le_trans hB (h.2 b o l c hv hl)⟩
/-- What the loop holds. -/
structure TxtAt (B L W D j : Nat) (d u v : Value) (w0 wr : World) : Prop where
  row : wr.ownsRow B 5 1 d j (byteCells (bitsL (L * 2 ^ j / D) j))
  rest : NatAt wr u (L * 2 ^ j % D)
  width : NatAt wr v (W * 2 ^ j)
  below : Below B w0 wr
  first : ∀ i, i < j → W * 2 ^ i < needN D (L * 2 ^ i % D)
  small : j = 0 ∨ W * 2 ^ j < 4 * D
theorem bitsL_add (q j b : Nat) (hb : b < 2) : bitsL (2 * q + b) (j + 1) = bitsL q j ++ [UInt8.ofNat (48 + b)] := by
  rw [bitsL, show (2 * q + b) / 2 = q by omega, show (2 * q + b) % 2 = b by omega]
set_option maxRecDepth 100000 in
set_option maxHeartbeats 4000000 in
theorem text_any (u0 u1 u2 : Value) (L W D k : Nat) (w : World) (hL : NatAt w u0 L) (hW : NatAt w u1 W) (hD : NatAt w u2 D) (hLD : L < D) (hWp : 0 < W) (hLW : L + W ≤ D) (hk : 4 * D < 18446744073709551616 ^ k) (hk6 : k ≤ 1000) :
    Calls Tryd.prog 49 #[.agg #[u0, u1, u2]] w fun e w' => ∃ J u, e = .returned (.string ⟨(bitsL u J).toArray⟩) ∧ Txt L W D J u ∧ J ≤ 64 * k ∧ Below w.heap.size w w' := by
  obtain ⟨i0, hi, hz0, hz1, hz2⟩ := info_parts Tryd.infoByte
  have HINF : Hid (Tryd.prog.info? 5 = some i0 ∧ i0.zero = some (.int .u8 0) ∧ i0.size = 1 ∧ i0.bytes = 1) := ⟨hi, hz0, hz1, hz2⟩
  clear hi hz0 hz1 hz2
  obtain ⟨a0, l0, c0, rfl⟩ := hL.isSl
  obtain ⟨a1, l1, c1, rfl⟩ := hW.isSl
  obtain ⟨a2, l2, c2, rfl⟩ := hD.isSl
  obtain ⟨W0, hW0⟩ : ∃ W0, w.alloc (.cells #[.slice a0 l0 c0, .slice a1 l1 c1, .slice a2 l2 c2] 69) = W0 := ⟨_, rfl⟩
  have hb0 : Below w.heap.size w W0 := by rw [← hW0]; exact (Below.refl _ _).alloc (Nat.le_refl _) _
  have hz0 : w.heap.size < W0.heap.size := by rw [← hW0]; simp
  have x0 : W0.cell? ⟨w.heap.size, 0, none⟩ = some (.slice a0 l0 c0) := by rw [← hW0]; simp
  have x1 : W0.cell? ⟨w.heap.size, 1, none⟩ = some (.slice a1 l1 c1) := by rw [← hW0]; simp
  have x2 : W0.cell? ⟨w.heap.size, 2, none⟩ = some (.slice a2 l2 c2) := by rw [← hW0]; simp
  have HKS : Hid (∀ W, Below W0.heap.size W0 W → W.cell? ⟨w.heap.size, 0, none⟩ = some (.slice a0 l0 c0) ∧ W.cell? ⟨w.heap.size, 1, none⟩ = some (.slice a1 l1 c1) ∧ W.cell? ⟨w.heap.size, 2, none⟩ = some (.slice a2 l2 c2)) := fun W hb => ⟨by rw [hb.cell (cell_lt x0)]; exact x0, by rw [hb.cell (cell_lt x1)]; exact x1, by rw [hb.cell (cell_lt x2)]; exact x2⟩
  have HL := Hid.mk' (hL.later hb0)
  have HWD := Hid.mk' (hW.later hb0)
  have HD := Hid.mk' (hD.later hb0)
  have HB := Hid.mk' hb0
  have HW := Hid.mk' hW0
  have HNUM := Hid.mk' (⟨hLD, hWp, hLW, hk⟩ : L < D ∧ 0 < W ∧ L + W ≤ D ∧ 4 * D < 18446744073709551616 ^ k)
  have HBIG : Hid (∀ j, W * 2 ^ j < 2 * D → j + 1 ≤ 64 * k) := fun j hj => by
    rcases Nat.lt_or_ge (64 * k) (j + 1) with h1 | h1
    · exfalso
      have h2 : 2 ^ (64 * k) ≤ 2 ^ (j + 1) := Nat.pow_le_pow_right (by decide) (Nat.le_of_lt h1)
      have h3 : 2 ^ (64 * k) = 18446744073709551616 ^ k := by rw [Nat.pow_mul]
      have h4 : 1 * 2 ^ j ≤ W * 2 ^ j := Nat.mul_le_mul_right _ hWp
      rw [Nat.pow_succ] at h2
      omega
    · exact h1
  have HST : Hid (∀ n, TxtAt W0.heap.size L W D 0 (.slice none 0 0) (.slice a0 l0 c0) (.slice a1 l1 c1) W0 (W0.drewN n)) := fun n => by
    have hd : Below W0.heap.size W0 (W0.drewN n) := below_drewN (Below.refl _ _) _
    refine ⟨World.ownsRow_nil _ _ _ _, ?_, ?_, hd, fun i hi => by omega, Or.inl rfl⟩
    · rw [Nat.pow_zero, Nat.mul_one, Nat.mod_eq_of_lt hLD]; exact HL.out.later hd
    · rw [Nat.pow_zero, Nat.mul_one]; exact HWD.out.later hd
  have HZ := Hid.mk' hz0
  clear hL hW hD hb0 hW0 hLD hWp hLW hk HL HWD hz0
  go_enter Tryd.func49, Tryd.ntmps49
  go_upto_region 2 with fail
  rw [HW.out]
  go_quiet (fail)
  go_wp2_with fail
  clear x0 x1 x2
  go_loopg [3, 4, 5] (2 * D - W) (fun gk d u v wr => ∃ j : Nat, gk = 2 * D - W * 2 ^ j ∧ Hid (TxtAt W0.heap.size L W D j d u v W0 wr))
  case atStart => exact ⟨0, by rw [Nat.pow_zero, Nat.mul_one], HST.out _⟩
  case round =>
    clear HST
    obtain ⟨j, hgk, HT⟩ := hrel
    have HGK := Hid.mk' hgk
    clear hgk
    obtain ⟨y0, y1, y2⟩ := HKS.out _ HT.out.below
    have hn := needed_any (.slice a0 l0 c0) (.slice a1 l1 c1) (.slice a2 l2 c2) u4 D (L * 2 ^ j % D) k wr ⟨_, _, _, rfl⟩ ⟨_, _, _, rfl⟩ (HD.out.later HT.out.below) HT.out.rest (Nat.le_of_lt (Nat.mod_lt _ (by have := HNUM.out; omega))) (by have := HNUM.out; omega) (by omega)
    go_wp2_with fail
    refine hn.mono ?_
    clear hn
    rintro e w1 ⟨v, rfl, hv, hb1⟩
    have HV := Hid.mk' hv
    have hBz := HT.out.below.size
    have hbw1 := below_chain HT.out.below hb1
    have HB1 := Hid.mk' hb1
    clear hv y0 y1 y2 hb1
    have HSM : Hid (W * 2 ^ j < 18446744073709551616 ^ k) := by
      obtain ⟨h1, h2, h3, h4⟩ := HNUM.out
      rcases HT.out.small with h5 | h5
      · subst h5; show _ < _; rw [Nat.pow_zero, Nat.mul_one]; omega
      · show _ < _; omega
    have HCM := Hid.mk' (NatCmp_any v u5 (needN D (L * 2 ^ j % D)) (W * 2 ^ j) k w1 HV.out (HT.out.width.later HB1.out) (by have := HNUM.out; have := needN_le (D := D) (r := L * 2 ^ j % D); omega) HSM.out (by omega))
    have HJ : Hid (j ≤ 64 * k) := by
      have h1 := HT.out.first
      show j ≤ 64 * k
      rcases Nat.eq_zero_or_pos j with h2 | h2
      · omega
      · have h3 := h1 (j - 1) (by omega)
        have h4 := HBIG.out (j - 1) (by have := needN_le (D := D) (r := L * 2 ^ (j - 1) % D); omega)
        omega
    by_cases hlt : W * 2 ^ j < needN D (L * 2 ^ j % D)
    · have hc : cmpOf (needN D (L * 2 ^ j % D)) (W * 2 ^ j) = 1 := by unfold cmpOf; rw [if_neg (by omega), if_pos hlt]
      rw [hc] at HCM
      have HLT := Hid.mk' hlt
      have HLT2 : Hid (W * 2 ^ j < 2 * D) := Nat.lt_of_lt_of_le hlt needN_le
      have hjb : j < 64000 := by have := HBIG.out j HLT2.out; omega
      clear hc hlt
      go_wp2_with fail
      refine HCM.out.mono ?_
      clear HCM
      rintro e w2 ⟨rfl, m, hw2⟩
      have HB2 : Hid (Below wr.heap.size wr w2) := by show Below _ _ _; rw [hw2]; exact below_drewN HB1.out _
      clear hw2 hbw1 HB1 HV
      have HMD : Hid (L * 2 ^ j % D < D) := Nat.mod_lt _ (by have := HNUM.out; omega)
      have h3 := Shift_one u4 (L * 2 ^ j % D) k w2 (HT.out.rest.later HB2.out) (by have := HNUM.out; have := HMD.out; omega) (by omega)
      go_wp2_with fail
      refine h3.mono ?_
      clear h3
      rintro e w3 ⟨v3, rfl, hn3, hb3⟩
      have HN3 := Hid.mk' (hn3.mono' HB2.out.size (Below.refl _ _))
      have HB3 := Hid.mk' (below_chain HB2.out hb3)
      clear hn3 hb3 HB2
      have h4 := Shift_one u5 (W * 2 ^ j) k w3 (HT.out.width.later HB3.out) HSM.out (by omega)
      go_wp2_with fail
      refine h4.mono ?_
      clear h4
      rintro e w4 ⟨v4, rfl, hn4, hb4⟩
      have HN4 := Hid.mk' (hn4.mono' HB3.out.size (Below.refl _ _))
      have HN34 := Hid.mk' (HN3.out.mono' (Nat.le_refl _) hb4)
      have HB4 := Hid.mk' (below_chain HB3.out hb4)
      clear hn4 hb4 HB3 HN3
      have hbw4 := below_chain HT.out.below HB4.out
      have HC2 := Hid.mk' (NatCmp_any v3 (.slice a2 l2 c2) (L * 2 ^ j % D * 2) D k w4 HN34.out.1 (HD.out.later hbw4) (by have := HNUM.out; have := HMD.out; omega) (by have := HNUM.out; omega) (by omega))
      obtain ⟨y0, y1, y2⟩ := HKS.out _ hbw4
      clear y0 y1
      by_cases hge : D ≤ L * 2 ^ j % D * 2
      · obtain ⟨c, hc, hc0⟩ : ∃ c : Int, cmpOf (L * 2 ^ j % D * 2) D = c ∧ 0 ≤ c := ⟨_, rfl, by unfold cmpOf; rw [if_neg (by omega)]; split <;> decide⟩
        rw [hc] at HC2
        have HMS := Hid.mk' ((mod_step (L := L) (D := D) (j := j) (by have := HNUM.out; omega)).1 hge)
        have HGE := Hid.mk' hge
        clear hc hge
        go_wp2_with fail
        refine HC2.out.mono ?_
        clear HC2 y2
        rintro e w5 ⟨rfl, m5, hw5⟩
        have hb5 : Below w4.heap.size w4 w5 := by rw [hw5]; exact below_drewN (Below.refl _ _) _
        have HN35 := Hid.mk' (HN34.out.mono' (Nat.le_refl _) hb5)
        have HN45 := Hid.mk' (HN4.out.mono' (Nat.le_refl _) hb5)
        have HB5 := Hid.mk' (below_chain HB4.out hb5)
        clear hw5 hb5 HN34 HN4 HB4 hbw4
        have hbw5 := below_chain HT.out.below HB5.out
        obtain ⟨y0, y1, y2⟩ := HKS.out _ hbw5
        clear y0 y1
        have h6 := Minus_new v3 (.slice a2 l2 c2) (L * 2 ^ j % D * 2) D k w5 HN35.out.1 (HD.out.later hbw5) HGE.out (by have := HNUM.out; have := HMD.out; omega) (by omega)
        go_wp2_with fail
        refine h6.mono ?_
        clear h6 y2
        rintro e w6 ⟨v6, rfl, hn6, hb6⟩
        have HN6 := Hid.mk' (hn6.mono' HB5.out.size (Below.refl _ _))
        have HN46 := Hid.mk' (HN45.out.mono' (Nat.le_refl _) hb6)
        have HB6 := Hid.mk' (below_chain HB5.out hb6)
        have hbw6 := below_chain hbw5 hb6
        have hz6 := hbw6.size
        have HBW6 := Hid.mk' hbw6
        clear hn6 hb6 HN45 HB5 HN35 hbw5 hbw6
        have HR := Hid.mk' (ownsRow_below HT.out.row HB6.out)
        go_wp2_with (at_builtin; go_must (refine wpList_append_lies _ rfl _ _ _ rfl W0.heap.size 5 i0 _ 1 1 Tryd.underlying118 HINF.out.1 HINF.out.2.1 HINF.out.2.2.1 HINF.out.2.2.2 rfl (by omega) u3 _ _ rfl (HR.out.alloc _) ⟨w6.heap.size, 0, none⟩ 1 1 [.int .u8 49] rfl rfl (one_new _ _ _) (by simp [Value.oneCell']) (by omega) (by unfold maxLen; omega) (by omega) (by simp; omega) _ rfl ?_; intro g' cap' w7 hown7 hgrow7 hat7 hlt7; have HO7 := Hid.mk' hown7; have HG7 := Hid.mk' hgrow7; clear hown7 hgrow7 hat7))
        go_roundg (2 * D - W * 2 ^ (j + 1))
        case measure => have h1 := HGK.out; have h2 := HLT2.out; have h3 := HNUM.out; have h4 : 1 * 2 ^ j ≤ W * 2 ^ j := Nat.mul_le_mul_right _ h3.2.1; have h5 := Nat.two_pow_pos j; rw [h1, Nat.pow_succ, ← Nat.mul_assoc]; omega
        case rel =>
          refine ⟨j + 1, rfl, ?_, ?_, ?_, below_push HBW6.out HR.out HG7.out, fun i hi => ?_, Or.inr ?_⟩
          · have := HO7.out
            rw [HMS.out.2, bitsL_add _ j 1 (by decide)]
            simpa [byteCells] using this
          · rw [HMS.out.1]; exact HN6.out.kept HT.out.row HG7.out
          · rw [Nat.pow_succ, ← Nat.mul_assoc]; exact HN46.out.kept HT.out.row HG7.out
          · rcases Nat.lt_or_ge i j with h | h
            · exact HT.out.first i h
            · obtain rfl : i = j := by omega
              exact HLT.out
          · rw [Nat.pow_succ, ← Nat.mul_assoc]; have := HLT2.out; omega
      · obtain ⟨c, hc, hc0⟩ : ∃ c : Int, cmpOf (L * 2 ^ j % D * 2) D = c ∧ c < 0 := ⟨_, rfl, by unfold cmpOf; rw [if_pos (by omega)]; decide⟩
        rw [hc] at HC2
        have HMS := Hid.mk' ((mod_step (L := L) (D := D) (j := j) (by have := HNUM.out; omega)).2 (by omega))
        clear hc hge
        go_wp2_with fail
        refine HC2.out.mono ?_
        clear HC2 y2
        rintro e w5 ⟨rfl, m5, hw5⟩
        have hb5 : Below w4.heap.size w4 w5 := by rw [hw5]; exact below_drewN (Below.refl _ _) _
        have HN35 := Hid.mk' (HN34.out.mono' (Nat.le_refl _) hb5)
        have HN45 := Hid.mk' (HN4.out.mono' (Nat.le_refl _) hb5)
        have HB5 := Hid.mk' (below_chain HB4.out hb5)
        clear hw5 hb5 HN34 HN4 HB4 hbw4
        have hbw5 := below_chain HT.out.below HB5.out
        have hz6 := hbw5.size
        have HBW6 := Hid.mk' hbw5
        clear hbw5
        have HR := Hid.mk' (ownsRow_below HT.out.row HB5.out)
        go_wp2_with (at_builtin; go_must (refine wpList_append_lies _ rfl _ _ _ rfl W0.heap.size 5 i0 _ 1 1 Tryd.underlying118 HINF.out.1 HINF.out.2.1 HINF.out.2.2.1 HINF.out.2.2.2 rfl (by omega) u3 _ _ rfl (HR.out.alloc _) ⟨w5.heap.size, 0, none⟩ 1 1 [.int .u8 48] rfl rfl (one_new _ _ _) (by simp [Value.oneCell']) (by omega) (by unfold maxLen; omega) (by omega) (by simp; omega) _ rfl ?_; intro g' cap' w7 hown7 hgrow7 hat7 hlt7; have HO7 := Hid.mk' hown7; have HG7 := Hid.mk' hgrow7; clear hown7 hgrow7 hat7))
        go_roundg (2 * D - W * 2 ^ (j + 1))
        case measure => have h1 := HGK.out; have h2 := HLT2.out; have h3 := HNUM.out; have h4 : 1 * 2 ^ j ≤ W * 2 ^ j := Nat.mul_le_mul_right _ h3.2.1; have h5 := Nat.two_pow_pos j; rw [h1, Nat.pow_succ, ← Nat.mul_assoc]; omega
        case rel =>
          refine ⟨j + 1, rfl, ?_, ?_, ?_, below_push HBW6.out HR.out HG7.out, fun i hi => ?_, Or.inr ?_⟩
          · have := HO7.out
            rw [HMS.out.2, show 2 * (L * 2 ^ j / D) = 2 * (L * 2 ^ j / D) + 0 from rfl, bitsL_add _ j 0 (by decide)]
            simpa [byteCells] using this
          · rw [HMS.out.1]; exact HN35.out.kept HT.out.row HG7.out
          · rw [Nat.pow_succ, ← Nat.mul_assoc]; exact HN45.out.kept HT.out.row HG7.out
          · rcases Nat.lt_or_ge i j with h | h
            · exact HT.out.first i h
            · obtain rfl : i = j := by omega
              exact HLT.out
          · rw [Nat.pow_succ, ← Nat.mul_assoc]; have := HLT2.out; omega
    · obtain ⟨c, hc, hc0⟩ : ∃ c : Int, cmpOf (needN D (L * 2 ^ j % D)) (W * 2 ^ j) = c ∧ c ≤ 0 := ⟨_, rfl, by unfold cmpOf; rw [if_neg hlt]; split <;> decide⟩
      rw [hc] at HCM
      have HLT := Hid.mk' hlt
      clear hc hlt
      go_wp2_with fail
      refine HCM.out.mono ?_
      clear HCM
      rintro e w2 ⟨rfl, m, hw2⟩
      have HB2 : Hid (Below wr.heap.size wr w2) := by show Below _ _ _; rw [hw2]; exact below_drewN HB1.out _
      have HR := Hid.mk' (ownsRow_below HT.out.row HB2.out)
      have HBW := Hid.mk' (below_chain HB.out (below_chain HT.out.below HB2.out))
      clear hw2 HB1 hbw1
      obtain ⟨au, lu, cu, hu, hlu⟩ := HT.out.rest.len
      subst hu
      by_cases hr : L * 2 ^ j % D = 0
      · have hl0 : lu = 0 := hlu.2 hr
        subst hl0
        have hcv := row_text HR.out
        have HTX : Hid (Txt L W D j (L * 2 ^ j / D)) := ⟨Nat.le_of_not_lt HLT.out, HT.out.first, by rw [if_pos hr]⟩
        clear hr hlu
        generalize L * 2 ^ j / D = q at *
        go_wp2_with fail
        go_ret
        exact ⟨j, q, rfl, HTX.out, HJ.out, HBW.out⟩
      · have hl0 : (0 : Int) < (lu : Int) := by have : lu ≠ 0 := fun h => hr (hlu.1 h); omega
        have htx : Txt L W D j (L * 2 ^ j / D + 1) := ⟨Nat.le_of_not_lt HLT.out, HT.out.first, by rw [if_neg hr]⟩
        have hq := (txt_room htx (by have := HNUM.out; omega) HNUM.out.2.2.1).2.2.2 hr
        have HTX := Hid.mk' htx
        have hj0 : 0 < j := by
          rcases Nat.eq_zero_or_pos j with h | h
          · exfalso; rw [h] at hq; simp at hq
          · exact h
        obtain ⟨g, cap, hd, hfill⟩ := bfill_of (w := w) HR.out hj0 (Nat.le_of_lt HZ.out) HBW.out
        subst hd
        obtain ⟨pre, t, hp1, hp2⟩ := bitsL_raise j _ hq
        rw [hp1] at hfill
        have hjl : pre.length + 1 + t = j := by
          have := congrArg List.length hp1
          rw [bitsL_length] at this
          simp at this
          omega
        have hra := raise_any g cap t pre w w2 hfill (by have := HJ.out; omega)
        rw [hjl, ← hp2] at hra
        clear htx hr hlu hq hfill hp1 hp2 hjl HR
        generalize L * 2 ^ j / D + 1 = q at *
        go_wp2_with fail
        refine hra.mono ?_
        clear hra
        rintro e w8 ⟨rfl, hf8⟩
        have hcv := bytes_text hf8 cap j (bitsL_length _ _)
        have HB8 := Hid.mk' hf8.below
        clear hf8
        go_wp2_with fail
        go_ret
        exact ⟨j, q, rfl, HTX.out, HJ.out, HB8.out⟩
end Go.Proofs.YtjmjedpeibnnnaaDoor
