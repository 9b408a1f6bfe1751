/- The program's fractions: parts, leastSum, ofSum. -/
import Derived.Test.YtnihclkaaglnjaaGreatDoorCnMath
import Derived.Test.YtnihclkaaglnjaaGreatDoorGrid
import Derived.Test.YtnihclkaaglnjaaGreatDoorLowF
import Derived.Deep.RegionHeld3
namespace Go.Proofs.YtnihclkaaglnjaaGreatDoor
open Go.RowKit

theorem Tryz.infoFc : (Tryz.prog.info? 67).map (fun i => (i.zero, i.size, i.bytes)) = some (some (.agg #[.int .i64 0, .int .i64 0]), 2, 16) := by kernel_rfl
/-- Fractions as cells. -/
def frC (f : Nat → Nat × Nat) (j : Nat) : Value := if j % 2 = 0 then .int .i64 ((f (j / 2)).1 : Int) else .int .i64 ((f (j / 2)).2 : Int)
theorem frC_num (f : Nat → Nat × Nat) (i : Nat) : frC f (i * 2) = .int .i64 ((f i).1 : Int) := by
  unfold frC; rw [if_pos (by omega), show i * 2 / 2 = i by omega]
theorem frC_den (f : Nat → Nat × Nat) (i : Nat) : frC f (i * 2 + 1) = .int .i64 ((f i).2 : Int) := by
  unfold frC; rw [if_neg (by omega), show (i * 2 + 1) / 2 = i by omega]
theorem made_fc (n j : Nat) (hj : j < 2 * n) : (madeCells (Value.agg #[.int .i64 0, .int .i64 0]).cells (n * 2)).toList[j]? = some (.int .i64 0) := by
  have : j < n * 2 := by omega
  simp [madeCells, this, Value.cells]
  rcases (show j % 2 = 0 ∨ j % 2 = 1 by omega) with h | h <;> simp [h]
theorem rowIs_madeF {w w2 : World} {g n m : Nat} {t : TypeId} {z : Value} {xs : List Value} (h : w2.ownsRow w.heap.size t 2 (.slice (some ⟨g, 0, none⟩) n n) n xs) (hm : m = 2 * n) (hx : ∀ i, i < m → xs[i]? = some z) : RowIs w2 g m (fun _ => z) := by
  obtain ⟨hl, hr⟩ := h
  rcases hr with ⟨hx, _⟩ | ⟨g', cap', cur, hv, hb, hh, _, _, hs, ht⟩
  · cases hx
  · obtain ⟨rfl, rfl⟩ : g = g' ∧ n = cap' := by simpa using hv
    refine ⟨fun i hi => ?_, fun i hi => ?_⟩
    · rw [← hx i hi, ← ht, List.getElem?_take_of_lt (by omega)]
      simp [World.cell?, hh]
    · simp [World.frozen?, hh]
theorem RowIs.setF {W : World} {g m j : Nat} {f f' : Nat → Value} (h : RowIs W g m f) (hj : j < m) (y : Value) (hf : ∀ i, i < m → f' i = if i = j then y else f i) : RowIs (W.setCell ⟨g, j, none⟩ y) g m f' :=
  ⟨fun i hi => by
    rw [put_cell _ (h.row j hj), hf i hi]
    by_cases hij : i = j
    · subst hij; rw [if_pos rfl, if_pos rfl]
    · rw [if_neg (fun e => hij (congrArg Addr.off e)), if_neg hij]; exact h.row i hi, fun i hi => by rw [World.frozen?_setCell]; exact h.fz i hi⟩

set_option maxRecDepth 100000 in
set_option maxHeartbeats 4000000 in
theorem parts_any (b o cap n num den : Nat) (X : Nat → Nat) (w : World) (h : RowAt w b o n (fun i => (X i : Int))) (hn : n ≤ 16) (hX : ∀ i, i < n → X i ≤ 256) (hnum : num ≤ 4096) (hd0 : 0 < den) (hd : den ≤ 1048576) :
    Calls Tryz.prog 29 #[.slice (some ⟨b, o, none⟩) n cap, .int .i64 num, .int .i64 den] w fun e w' => e = .returned (.slice (some ⟨w.heap.size, 0, none⟩) n n) ∧ RowIs w' w.heap.size (2 * n) (frC fun i => lowP (X i * num) den) ∧ Below w.heap.size w w' := by
  obtain ⟨i0, hi, hz0, hz1, hz2⟩ := info_parts Tryz.infoFc
  have HINF : Hid (Tryz.prog.info? 67 = some i0 ∧ i0.zero = some (.agg #[.int .i64 0, .int .i64 0]) ∧ i0.size = 2 ∧ i0.bytes = 16) := ⟨hi, hz0, hz1, hz2⟩
  have HR : Hid (∀ W, Below w.heap.size w W → ∀ i, i < n → W.cell? ⟨b, o + i, none⟩ = some (.int .i64 (X i : Int))) := fun W hb i hi => by rw [hb.cell (cell_lt (h i hi))]; exact h i hi
  have HX := Hid.mk' hX
  clear hi hz0 hz1 hz2 h hX
  go_enter Tryz.func29, Tryz.ntmps29
  go_wp2_with (at_make; go_must (refine wpList_make_full _ rfl _ _ _ rfl w.heap.size 67 i0 _ 2 Tryz.underlying52 HINF.out.1 HINF.out.2.1 HINF.out.2.2.1 .i64 .i64 _ _ n rfl rfl rfl rfl (by rw [HINF.out.2.2.2]; omega) (by unfold maxLen; omega) (Nat.le_refl _) ?_; intro w2 hown2 hgrow2; have HF2 := Hid.mk' (rowIs_madeF hown2 rfl (made_fc n)); have HB2 := Hid.mk' (made_below hgrow2); clear hown2 hgrow2))
  go_loopw [15] (fun t wr => ∃ (i : Nat) (f : Nat → Value), i ≤ n ∧ t = .int .i64 i ∧ Hid (RowIs wr w.heap.size (2 * n) f ∧ ∀ j, j < 2 * i → f j = frC (fun i => lowP (X i * num) den) j) ∧ Hid (Below w.heap.size w wr)) (fun t _ => n - (intOf t).toNat)
  case atStart => exact ⟨0, _, Nat.zero_le _, rfl, ⟨HF2.out, fun j hj => by omega⟩, HB2⟩
  case round =>
    clear HF2 HB2
    obtain ⟨i, f, hi, rfl, HF, HB⟩ := hrel
    rcases Nat.lt_or_ge i n with h1 | h1
    · have hiI : (i : Int) < (n : Int) := by omega
      have hi0 : (0 : Int) ≤ (i : Int) := by omega
      have hc := HR.out wr HB.out i h1
      have hxm := HX.out i h1
      have hle : X i * num ≤ 1048576 := Nat.le_trans (Nat.mul_le_mul hxm hnum) (by decide)
      have hcast : ((X i : Int) * (num : Int)) = ((X i * num : Nat) : Int) := by simp
      have hlow := lowest_any ((X i * num : Nat) : Int) den wr (by omega) (by omega) hd0 (by omega) (Nat.gcd (X i * num) den) (by rw [Int.natAbs_natCast])
      have hq : ((X i * num : Nat) : Int).tdiv (Nat.gcd (X i * num) den : Int) = ((X i * num / Nat.gcd (X i * num) den : Nat) : Int) := by rw [Int.tdiv_eq_ediv_of_nonneg (by omega)]; simp
      rw [hq] at hlow
      have HP : Hid (frC (fun i => lowP (X i * num) den) (i * 2) = .int .i64 ((X i * num / Nat.gcd (X i * num) den : Nat) : Int) ∧ frC (fun i => lowP (X i * num) den) (i * 2 + 1) = .int .i64 ((den / Nat.gcd (X i * num) den : Nat) : Int)) := ⟨frC_num _ i, frC_den _ i⟩
      generalize X i * num / Nat.gcd (X i * num) den = p at *
      generalize den / Nat.gcd (X i * num) den = q at *
      generalize hY : X i * num = y at *
      generalize X i = x at *
      clear hq hY
      go_wp2_with fail
      refine hlow.mono ?_
      clear hlow
      rintro e w4 ⟨rfl, hb4⟩
      have hF5 := HF.out.1.later hb4
      have y0 := hF5.row (i * 2) (by omega)
      have y1 := hF5.row (i * 2 + 1) (by omega)
      have z0 := hF5.fz (i * 2) (by omega)
      have z1 := hF5.fz (i * 2 + 1) (by omega)
      have HS : Hid (RowIs ((w4.setCell ⟨w.heap.size, i * 2, none⟩ (.int .i64 (p : Int))).setCell ⟨w.heap.size, i * 2 + 1, none⟩ (.int .i64 (q : Int))) w.heap.size (2 * n) (fun j => if j = i * 2 + 1 then .int .i64 (q : Int) else if j = i * 2 then .int .i64 (p : Int) else f j)) := (hF5.setF (j := i * 2) (f' := fun j => if j = i * 2 then .int .i64 (p : Int) else f j) (by omega) _ (fun _ _ => rfl)).setF (by omega) _ (fun _ _ => rfl)
      have HB5 := Hid.mk' (below_chain HB.out hb4)
      clear hF5 hb4 hcast
      go_wp2_with fail
      refine ⟨⟨i + 1, _, h1, by go_num, ⟨HS.out, fun j hj => ?_⟩, ?_⟩, by simp [intOf]; omega⟩
      · by_cases h2 : j = i * 2 + 1
        · rw [if_pos h2, h2]; exact HP.out.2.symm
        · rw [if_neg h2]
          by_cases h3 : j = i * 2
          · rw [if_pos h3, h3]; exact HP.out.1.symm
          · rw [if_neg h3]; exact HF.out.2 j (by omega)
      · exact (HB5.out.setCell (Nat.le_refl _) _).setCell (Nat.le_refl _) _
    · obtain rfl : n = i := by omega
      go_wp2_with fail
      go_ret
      exact ⟨rfl, ⟨fun j hj => by rw [← HF.out.2 j hj]; exact HF.out.1.row j hj, HF.out.1.fz⟩, HB.out⟩

/-- Fractions in memory. -/
def FcAt (w : World) (v : Value) (l : List (Nat × Nat)) : Prop := ∃ ad cap, v = .slice ad l.length cap ∧ ∀ i p, l[i]? = some p → ∃ b o, ad = some ⟨b, o, none⟩ ∧ w.cell? ⟨b, o + i * 2, none⟩ = some (.int .i64 (p.1 : Int)) ∧ w.cell? ⟨b, o + i * 2 + 1, none⟩ = some (.int .i64 (p.2 : Int))
theorem FcAt.later {w w' : World} {v : Value} {l : List (Nat × Nat)} (h : FcAt w v l) (hb : Below w.heap.size w w') : FcAt w' v l := by
  obtain ⟨ad, cap, hv, hr⟩ := h
  refine ⟨ad, cap, hv, fun i p hp => ?_⟩
  obtain ⟨b, o, e, h1, h2⟩ := hr i p hp
  exact ⟨b, o, e, by rw [hb.cell (cell_lt h1)]; exact h1, by rw [hb.cell (cell_lt h2)]; exact h2⟩
theorem lcm_step (s d : Nat) : s * (d / Nat.gcd s d) = Nat.lcm s d := by
  rw [Nat.lcm, Nat.mul_div_assoc _ (Nat.gcd_dvd_right s d)]
theorem lcmP_take_le (l : List (Nat × Nat)) (hl : ∀ p, p ∈ l → 0 < p.2) (k : Nat) : lcmP (l.take k) ≤ lcmP l :=
  Nat.le_of_dvd (lcmP_pos l hl) (lcmP_least _ _ fun p hp => lcmP_dvd l p (List.mem_of_mem_take hp))

theorem quo_nat62 {a b : Nat} (h : a ≤ 4611686018427387904) : wrap64 ((a : Int) / (b : Int)) = ((a / b : Nat) : Int) := by
  have h0 : (a : Int) / (b : Int) = ((a / b : Nat) : Int) := by simp
  have h1 : a / b ≤ a := Nat.div_le_self _ _
  rw [h0]
  generalize a / b = q at h1
  rw [w64 _ (by omega)]
set_option maxRecDepth 100000 in
set_option maxHeartbeats 4000000 in
theorem leastSum_big (v : Value) (l : List (Nat × Nat)) (most : Nat) (w : World) (h : FcAt w v l) (hl : ∀ p, p ∈ l → 0 < p.2 ∧ p.2 ≤ 4611686018427387904) (hn : l.length ≤ 1000) (hm : most ≤ 4096) (hm1 : 1 ≤ most) :
    Calls Tryz.prog 22 #[v, .int .i64 most] w fun e w' => (lcmP l ≤ most → e = .returned (.tuple #[.int .i64 (lcmP l : Int), .bool true])) ∧ (most < lcmP l → e = .returned (.tuple #[.int .i64 0, .bool false])) ∧ Below w.heap.size w w' := by
  have HL : Hid (∀ k, lcmP (l.take k) ≤ lcmP l) := lcmP_take_le l fun p hp => (hl p hp).1
  have HLP : Hid (∀ k, 0 < lcmP (l.take k)) := fun k => lcmP_pos _ fun p hp => (hl p (List.mem_of_mem_take hp)).1
  have HF := Hid.mk' h
  have HLL := Hid.mk' hl
  obtain ⟨ad, cap, rfl, _⟩ := h
  clear hl
  go_enter Tryz.func22, Tryz.ntmps22
  go_wp2_with fail
  go_loopw [6, 12] (fun s t wr => ∃ (k y : Nat), k ≤ l.length ∧ t = .int .i64 k ∧ s = .int .i64 (y : Int) ∧ Hid (y = lcmP (l.take k) ∧ y ≤ most) ∧ Hid (Below w.heap.size w wr)) (fun _ t _ => l.length - (intOf t).toNat)
  case atStart => exact ⟨0, 1, Nat.zero_le _, rfl, rfl, ⟨by simp [lcmP], hm1⟩, Below.refl _ _⟩
  case round =>
    obtain ⟨k, y, hk, rfl, rfl, HY, HB⟩ := hrel
    rcases Nat.lt_or_ge k l.length with h1 | h1
    · have hkI : (k : Int) < (l.length : Int) := by omega
      have hk0 : (0 : Int) ≤ (k : Int) := by omega
      obtain ⟨p, hp⟩ : ∃ p, l[k]? = some p := ⟨l[k], by simp [h1]⟩
      obtain ⟨ad', cap', hv', hr'⟩ := HF.out.later HB.out
      simp only [Value.slice.injEq, true_and] at hv'
      obtain ⟨rfl, rfl⟩ := hv'
      obtain ⟨b, o, rfl, hc0, hc1⟩ := hr' k p hp
      clear hr'
      obtain ⟨hd0, hd1⟩ := HLL.out p (List.mem_of_getElem? hp)
      have hy0 : 0 < y := by rw [HY.out.1]; exact HLP.out k
      have hy1 := HY.out.2
      have HT : Hid (lcmP (l.take (k + 1)) = y * (p.2 / Nat.gcd y p.2)) := by show _ = _; rw [lcmP_take hp, ← HY.out.1, lcm_step]
      have hgp : 0 < Nat.gcd y p.2 := Nat.gcd_pos_of_pos_left _ hy0
      have hgl : Nat.gcd y p.2 ≤ y := Nat.gcd_le_left _ hy0
      have hql : p.2 / Nat.gcd y p.2 ≤ p.2 := Nat.div_le_self _ _
      obtain ⟨u, d⟩ := p
      obtain ⟨Wb, hWb⟩ : ∃ Wb, Wb = wr.alloc (.cells #[.int .i64 (u : Int), .int .i64 (d : Int)] 67) := ⟨_, rfl⟩
      have HBb : Hid (Below w.heap.size w Wb) := by show Below _ _ _; rw [hWb]; exact HB.out.alloc HB.out.size _
      have hcb : Wb.cell? ⟨wr.heap.size, 1, none⟩ = some (.int .i64 (d : Int)) := by rw [hWb, World.cell?_alloc_at _ _ _ _ rfl]; rfl
      have HCB : Hid (∀ W, Below Wb.heap.size Wb W → W.cell? ⟨wr.heap.size, 1, none⟩ = some (.int .i64 (d : Int))) := fun W hb => by rw [hb.cell (cell_lt hcb)]; exact hcb
      have HGC : Hid (∀ W, Calls Tryz.prog 49 #[.int .i64 (y : Int), .int .i64 (d : Int)] W fun e w' => e = .returned (.int .i64 (Nat.gcd y d : Int)) ∧ Below W.heap.size W w') := fun W => by
        refine (GCD_any (y : Int) (d : Int) W (by omega) (by omega) (by omega) (by omega)).mono ?_
        rintro e w1 ⟨rfl, m, rfl⟩
        exact ⟨by simp [Int.gcd], below_drewN (Below.refl _ _) _⟩
      simp only at hc0 hc1 hd0 hd1 HT hgp hgl hql
      have hgI : ¬ Nat.gcd y d = 0 := by omega
      have HQ : Hid (wrap64 ((d : Int) / ((Nat.gcd y d : Nat) : Int)) = ((d / Nat.gcd y d : Nat) : Int)) := quo_nat62 (by omega)
      have HQM : Hid (wrap64 ((most : Int) / (y : Int)) = ((most / y : Nat) : Int)) := quo_nat30 (by omega)
      generalize hg : Nat.gcd y d = g at *
      have hcur0 : Below Wb.heap.size Wb Wb := Below.refl _ _
      have hcur : Below Wb.heap.size Wb Wb.drew := (Below.refl _ _).drew
      clear hg hp
      by_cases hfit : y * (d / g) ≤ most
      · have hbr : wrap64 ((d : Int) / (g : Int)) ≤ wrap64 ((most : Int) / (y : Int)) := by
          rw [HQ.out, HQM.out]
          have : d / g ≤ most / y := (Nat.le_div_iff_mul_le hy0).2 (by rw [Nat.mul_comm]; exact hfit)
          omega
        have HFIT := Hid.mk' hfit
        have HWR : Hid (wrap64 ((y : Int) * wrap64 ((d : Int) / (g : Int))) = ((y * (d / g) : Nat) : Int)) := by
          show _ = _
          rw [HQ.out, ← Int.natCast_mul, w64 _ (by omega)]
        clear hfit
        go_wp2_with fail
        rw [← hWb]
        clear hWb hc0 hc1
        go_region_held3 (fun W => W.cell? ⟨wr.heap.size, 1, none⟩ = some (.int .i64 (d : Int)))
          (first | exact HCB.out _ hcur0 | exact HCB.out _ hcur | exact HCB.out _ hbw1)
          (first
            | (go_at_call 49; refine (HGC.out _).mono ?_; rintro e w10 ⟨rfl, hb10⟩; have hbw1 := below_chain hcur hb10; clear hb10))
        go_wp2_with fail
        exact ⟨⟨k + 1, y * (d / g), h1, by go_num, by rw [HWR.out], ⟨HT.out.symm, HFIT.out⟩, below_chain HBb.out hbw1⟩, by simp [intOf]; omega⟩
      · have hbr : wrap64 ((most : Int) / (y : Int)) < wrap64 ((d : Int) / (g : Int)) := by
          rw [HQ.out, HQM.out]
          have : ¬ d / g ≤ most / y := fun h => hfit (by rw [Nat.mul_comm]; exact (Nat.le_div_iff_mul_le hy0).1 h)
          omega
        have HBIG : Hid (most < lcmP l) := by
          have h5 := HL.out (k + 1)
          rw [HT.out] at h5
          show _ < _
          omega
        clear hfit
        go_wp2_with fail
        rw [← hWb]
        clear hWb hc0 hc1
        go_region_held3 (fun W => W.cell? ⟨wr.heap.size, 1, none⟩ = some (.int .i64 (d : Int)))
          (first | exact HCB.out _ hcur0 | exact HCB.out _ hcur | exact HCB.out _ hbw1)
          (first
            | (go_at_call 49; refine (HGC.out _).mono ?_; rintro e w10 ⟨rfl, hb10⟩; have hbw1 := below_chain hcur hb10; clear hb10))
        go_wp2_with fail
        go_ret2
        exact ⟨(fun h => by have := HBIG.out; omega), (fun _ => rfl), below_chain HBb.out hbw1⟩
    · obtain rfl : k = l.length := by omega
      have HE : Hid (y = lcmP l) := by have := HY.out.1; rw [List.take_length] at this; exact this
      go_wp2_with fail
      go_ret2
      exact ⟨(fun _ => by rw [← HE.out]; rfl), (fun h => by have := HE.out; have := HY.out.2; omega), HB.out⟩

theorem leastSum_any (v : Value) (l : List (Nat × Nat)) (most : Nat) (w : World) (h : FcAt w v l) (hl : ∀ p, p ∈ l → 0 < p.2 ∧ p.2 ≤ 1048576) (hn : l.length ≤ 1000) (hm : most ≤ 4096) (hm1 : 1 ≤ most) :
    Calls Tryz.prog 22 #[v, .int .i64 most] w fun e w' => (lcmP l ≤ most → e = .returned (.tuple #[.int .i64 (lcmP l : Int), .bool true])) ∧ (most < lcmP l → e = .returned (.tuple #[.int .i64 0, .bool false])) ∧ Below w.heap.size w w' :=
  leastSum_big v l most w h (fun p hp => ⟨(hl p hp).1, by have := (hl p hp).2; omega⟩) hn hm hm1

set_option maxRecDepth 100000 in
set_option maxHeartbeats 4000000 in
theorem ofSum_any (b n cap L : Nat) (f : Nat → Nat × Nat) (w : World) (h : RowIs w b (2 * n) (frC f)) (hn : n ≤ 16) (hf : ∀ i, i < n → 0 < (f i).2 ∧ (f i).2 ≤ 1048576 ∧ (f i).1 ≤ 1048576) (hL : L ≤ 4096) :
    Calls Tryz.prog 23 #[.slice (some ⟨b, 0, none⟩) n cap, .int .i64 L] w fun e w' => e = .returned (.slice (some ⟨w.heap.size, 0, none⟩) n n) ∧ RowIs w' w.heap.size n (fun k => .int .i64 (wholeP L (f k) : Int)) ∧ Below w.heap.size w w' := by
  obtain ⟨i0, hi, hz0, hz1, hz2⟩ := info_parts Tryz.infoInt
  have HINF : Hid (Tryz.prog.info? 3 = some i0 ∧ i0.zero = some (.int .i64 0) ∧ i0.size = 1 ∧ i0.bytes = 8) := ⟨hi, hz0, hz1, hz2⟩
  have HR : Hid (∀ W, Below w.heap.size w W → ∀ i, i < n → W.cell? ⟨b, 0 + i * 2, none⟩ = some (.int .i64 ((f i).1 : Int)) ∧ W.cell? ⟨b, 0 + i * 2 + 1, none⟩ = some (.int .i64 ((f i).2 : Int))) := fun W hb i hi => by
    have h1 := (h.row (i * 2) (by omega)).trans (congrArg some (frC_num f i))
    have h2 := (h.row (i * 2 + 1) (by omega)).trans (congrArg some (frC_den f i))
    rw [Nat.zero_add]
    exact ⟨by rw [hb.cell (cell_lt h1)]; exact h1, by rw [hb.cell (cell_lt h2)]; exact h2⟩
  have HF := Hid.mk' hf
  clear hi hz0 hz1 hz2 h hf
  go_enter Tryz.func23, Tryz.ntmps23
  go_wp2_with (at_make; go_must (refine wpList_make_full _ rfl _ _ _ rfl w.heap.size 3 i0 _ 1 Tryz.underlying26 HINF.out.1 HINF.out.2.1 HINF.out.2.2.1 .i64 .i64 _ _ n rfl rfl rfl rfl (by rw [HINF.out.2.2.2]; omega) (by unfold maxLen; omega) (Nat.le_refl _) ?_; intro w2 hown2 hgrow2; have HF2 := Hid.mk' (rowIs_made hown2 (made_one (.int .i64 0) rfl n)); have HB2 := Hid.mk' (made_below hgrow2); clear hown2 hgrow2))
  go_loopw [13] (fun t wr => ∃ (i : Nat) (q : Nat → Value), i ≤ n ∧ t = .int .i64 i ∧ Hid (RowIs wr w.heap.size n q ∧ ∀ j, j < i → q j = .int .i64 (wholeP L (f j) : Int)) ∧ Hid (Below w.heap.size w wr)) (fun t _ => n - (intOf t).toNat)
  case atStart => exact ⟨0, _, Nat.zero_le _, rfl, ⟨HF2.out, fun j hj => by omega⟩, HB2⟩
  case round =>
    clear HF2 HB2
    obtain ⟨i, q, hi, rfl, HQ, HB⟩ := hrel
    rcases Nat.lt_or_ge i n with h1 | h1
    · have hiI : (i : Int) < (n : Int) := by omega
      have hi0 : (0 : Int) ≤ (i : Int) := by omega
      obtain ⟨hc0, hc1⟩ := HR.out wr HB.out i h1
      rw [Nat.zero_add] at hc0 hc1
      obtain ⟨hd0, hd1, hu1⟩ := HF.out i h1
      have HW : Hid (wholeP L (f i) = (f i).1 * (L / (f i).2)) := rfl
      have hqI : L / (f i).2 ≤ 4096 := Nat.le_trans (Nat.div_le_self _ _) hL
      have hmul : (f i).1 * (L / (f i).2) ≤ 4294967296 := Nat.le_trans (Nat.mul_le_mul hu1 hqI) (by decide)
      have HQQ : Hid (wrap64 ((L : Int) / (((f i).2 : Nat) : Int)) = ((L / (f i).2 : Nat) : Int)) := quo_nat30 (by omega)
      have HWR : Hid (wrap64 (((f i).1 : Int) * wrap64 ((L : Int) / (((f i).2 : Nat) : Int))) = (wholeP L (f i) : Int)) := by
        show _ = _
        rw [HQQ.out, HW.out, ← Int.natCast_mul, w64 _ (by omega)]
      have hnz : ¬ (f i).2 = 0 := by omega
      have HX : Hid (∀ W, Below wr.heap.size wr W → RowIs W w.heap.size n q) := fun W hb => HQ.out.1.later hb
      clear hqI hmul HW
      generalize hu : (f i).1 = u at *
      generalize hd : (f i).2 = d at *
      clear hu hd
      have hba : Below wr.heap.size wr (wr.alloc (.cells #[.int .i64 (u : Int), .int .i64 (d : Int)] 67)) := (Below.refl _ _).alloc (Nat.le_refl _) _
      have hrow := HX.out _ hba
      have y0 := hrow.row i h1
      have z0 := hrow.fz i h1
      have hsz : w.heap.size < wr.heap.size := cell_lt (HQ.out.1.row i h1)
      go_wp2_with fail
      go_region
      all_goals
        go_wp2_with fail
        refine ⟨⟨i + 1, fun j => if j = i then .int .i64 (wholeP L (f i) : Int) else q j, h1, by go_num, ⟨?_, fun j hj => ?_⟩, ?_⟩, by simp [intOf]; omega⟩
        · rw [HWR.out]
          exact (HQ.out.1.setF h1 _ (fun _ _ => rfl)).later (((Below.refl _ _).alloc (Nat.le_refl _) _).drew)
        · dsimp only
          by_cases h2 : j = i
          · rw [if_pos h2, h2]
          · rw [if_neg h2]; exact HQ.out.2 j (by omega)
        · exact ((HB.out.setCell (Nat.le_refl _) _).alloc (by have := HB.out.size; simpa using this) _).drew
    · obtain rfl : n = i := by omega
      go_wp2_with fail
      go_ret
      exact ⟨rfl, ⟨fun j hj => by rw [← HQ.out.2 j hj]; exact HQ.out.1.row j hj, HQ.out.1.fz⟩, HB.out⟩
end Go.Proofs.YtnihclkaaglnjaaGreatDoor
