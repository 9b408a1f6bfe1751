/- secret.Perfect, and the laws' closed fact: one bit, two keys. -/
import Derived.Test.YtdlbnolnkmhdcaaDoorSkWays
import Derived.BigQuiet
namespace Go.Proofs.YtdlbnolnkmhdcaaDoor
open Go.RowKit

/-- Are the first n the same? -/
def sameB (z y : Nat → Int) : Nat → Bool
  | 0 => true
  | k + 1 => sameB z y k && decide (z k = y k)
theorem sameB_no {z y : Nat → Int} {k n : Nat} (h : z k ≠ y k) (hk : k < n) : sameB z y n = false := by
  induction n with
  | zero => omega
  | succ n ih =>
    rcases Nat.lt_or_ge k n with h1 | h1
    · simp [sameB, ih h1]
    · obtain rfl : k = n := by omega
      simp [sameB, h]
theorem sameB_next {z y : Nat → Int} {k : Nat} (h : sameB z y k = true) (h1 : z k = y k) : sameB z y (k + 1) = true := by simp [sameB, h, h1]
theorem sameB_iff (z y : Nat → Int) : ∀ n, sameB z y n = true ↔ ∀ k, k < n → z k = y k
  | 0 => by simp [sameB]
  | n + 1 => by
    simp only [sameB, Bool.and_eq_true, decide_eq_true_eq, sameB_iff z y n]
    constructor
    · intro h k hk
      rcases Nat.lt_or_ge k n with h1 | h1
      · exact h.1 k h1
      · obtain rfl : k = n := by omega
        exact h.2
    · exact fun h => ⟨fun k hk => h k (by omega), h n (by omega)⟩
set_option maxRecDepth 100000 in
set_option maxHeartbeats 1000000 in
theorem Equal_rows (b o c b' o' c' n : Nat) (z y : Nat → Int) (w : World) (h : RowAt w b o n z) (h' : RowAt w b' o' n y) (hn : n ≤ 1000000) :
    Calls Tryd.prog 29 #[.slice (some ⟨b, o, none⟩) n c, .slice (some ⟨b', o', none⟩) n c'] w fun e w' => e = .returned (.bool (sameB z y n)) ∧ Below w.heap.size w w' := by
  have HR := Hid.mk' h
  have HK := Hid.mk' h'
  have hnn : ((n : Int) != (n : Int)) = false := by simp
  clear h h'
  go_enter Tryd.func29, Tryd.ntmps29
  go_wp2_with fail
  go_loopw [13] (fun i wr => ∃ k : Nat, k ≤ n ∧ i = .int .i64 k ∧ Hid (Below w.heap.size w wr) ∧ Hid (sameB z y k = true)) (fun i _ => n - (intOf i).toNat)
  case atStart => exact ⟨0, Nat.zero_le _, rfl, Below.refl _ _, rfl⟩
  case round =>
    obtain ⟨k, hk, rfl, HB, HS⟩ := hrel
    rcases Nat.lt_or_ge k n with h1 | h1
    · have hc := (HR.out.later HB.out) k h1
      have hd := (HK.out.later HB.out) k h1
      have hkn : (k : Int) < (n : Int) := by omega
      by_cases e : z k = y k
      · have HN := Hid.mk' (sameB_next HS.out e)
        rw [e] at hc
        generalize y k = x at *
        have hx : (x != x) = false := by simp
        clear e
        go_wp2_with fail
        go_region
        all_goals
          go_wp2_with fail
          exact ⟨⟨k + 1, h1, by go_num, HB.out.drew, HN⟩, by simp [intOf]; omega⟩
      · have HN := Hid.mk' (sameB_no e h1)
        have hx : (z k != y k) = true := by rw [bne_iff_ne]; exact e
        generalize y k = x at *
        generalize z k = x' at *
        clear e
        go_wp2_with fail
        go_region
        all_goals
          go_wp2_with fail
          go_ret
          exact ⟨by rw [HN.out]; rfl, HB.out.drew⟩
    · obtain rfl : k = n := by omega
      go_wp2_with fail
      go_ret
      exact ⟨by rw [HS.out]; rfl, HB.out⟩

/-- Are the first k rows as the first one? -/
def perfB (Z : Nat → Nat → Int) (S : Nat) : Nat → Bool
  | 0 => true
  | k + 1 => perfB Z S k && sameB (Z k) (Z 0) S
theorem perfB_no {Z : Nat → Nat → Int} {S k n : Nat} (h : sameB (Z k) (Z 0) S = false) (hk : k < n) : perfB Z S n = false := by
  induction n with
  | zero => omega
  | succ n ih =>
    rcases Nat.lt_or_ge k n with h1 | h1
    · simp [perfB, ih h1]
    · obtain rfl : k = n := by omega
      simp [perfB, h]
theorem perfB_next {Z : Nat → Nat → Int} {S k : Nat} (h : perfB Z S k = true) (h1 : sameB (Z k) (Z 0) S = true) : perfB Z S (k + 1) = true := by simp [perfB, h, h1]
theorem perfB_all {Z : Nat → Nat → Int} {S n : Nat} (h : perfB Z S n = true) {k : Nat} (hk : k < n) : sameB (Z k) (Z 0) S = true := by
  cases e : sameB (Z k) (Z 0) S with
  | true => rfl
  | false => rw [perfB_no e hk] at h; cases h
def perfA (n : Nat) (z : Nat → Int) (R : Nat) (ns : Nat → Nat) (zs : Nat → Nat → Int) : Bool := decide (ciErr n z R ns zs = 0) && perfB (fun m s => wayZ z zs m s n) (topN (ns 0) zs n) (ns 0)
set_option maxRecDepth 100000 in
set_option maxHeartbeats 4000000 in
theorem Perfect_any (a : Nat → Addr) (kv lv : Value) (n : Nat) (z : Nat → Int) (R : Nat) (vs : Nat → Value) (ns : Nat → Nat) (zs : Nat → Nat → Int) (w : World) (hE : Errs w a) (hk : NumsAt w kv n z) (hl : TabAt w lv R vs ns zs) (hn : n ≤ 1000000) (hR : R ≤ 1000000) (hns : ∀ i, i < R → ns i ≤ 1000000) :
    Calls Tryd.prog 16 #[.agg #[kv, lv]] w fun e w' => e = .returned (.tuple #[.bool (perfA n z R ns zs), errV a (ciErr n z R ns zs)]) ∧ Below w.heap.size w w' := by
  obtain ⟨ka, kc, rfl⟩ := hk.form
  obtain ⟨la, lc, rfl⟩ := hl.form
  obtain ⟨w1, hw1⟩ : ∃ w1, w1 = w.alloc (.cells #[.slice ka n kc, .slice la R lc] 36) := ⟨_, rfl⟩
  have hb1 : Below w.heap.size w w1 := by rw [hw1]; exact (Below.refl _ _).alloc (Nat.le_refl _) _
  have hc0 : w1.cell? ⟨w.heap.size, 0, none⟩ = some (.slice ka n kc) := by rw [hw1]; go_simp
  have hc1 : w1.cell? ⟨w.heap.size, 1, none⟩ = some (.slice la R lc) := by rw [hw1]; go_simp
  have HB1 := Hid.mk' hb1
  have HW1 := Hid.mk' hw1
  have HC : Hid (∀ W, Below w1.heap.size w1 W → W.cell? ⟨w.heap.size, 0, none⟩ = some (.slice ka n kc) ∧ W.cell? ⟨w.heap.size, 1, none⟩ = some (.slice la R lc)) := fun W hb => ⟨by rw [hb.cell (cell_lt hc0)]; exact hc0, by rw [hb.cell (cell_lt hc1)]; exact hc1⟩
  have hV := SkValid_any a _ _ n z R vs ns zs w1 (hE.below hb1) (hk.later hb1) (hl.later hb1) hn hR hns
  have HK := Hid.mk' (fun (W : World) (hb : Below w1.heap.size w1 W) => (hk.later hb1).later hb)
  have HL := Hid.mk' (fun (W : World) (hb : Below w1.heap.size w1 W) => (hl.later hb1).later hb)
  clear hE hk hl hb1 hw1 hns hc0 hc1
  by_cases he : ciErr n z R ns zs ≠ 0
  · have HP : Hid (perfA n z R ns zs = false) := by show _ = _; unfold perfA; rw [decide_eq_false he]; rfl
    rw [errV_pos a he] at hV
    have HX := Hid.mk' (errV_pos a he)
    generalize ciErr n z R ns zs = q at *
    clear he HK HL
    go_enter Tryd.func16, Tryd.ntmps16
    go_wp2_with fail
    rw [← HW1.out]
    refine hV.mono ?_
    rintro e w2 ⟨rfl, hb2⟩
    have HB2 := Hid.mk' (below_chS HB1.out hb2)
    clear hb2 hV
    go_wp2_with fail
    go_ret2
    exact ⟨by rw [HP.out, HX.out]; rfl, HB2.out⟩
  · have he0 : ciErr n z R ns zs = 0 := by omega
    have hok := ciErr_ok he0
    have HP : Hid (perfA n z R ns zs = perfB (fun m s => wayZ z zs m s n) (topN (ns 0) zs n) (ns 0)) := by show _ = _; unfold perfA; rw [decide_eq_true he0]; rfl
    have HE0 := Hid.mk' he0
    rw [he0, errV_zero] at hV
    have HWO := Hid.mk' (fun (W : World) (hb : Below w1.heap.size w1 W) => waysOf_any _ _ n z R vs ns zs W (HK.out W hb) (HL.out W hb) hok)
    have h0 := hok.len0
    have hC16 : ns 0 ≤ 16 := rowB_short (hok.row 0 hok.w.posN)
    have hT16 := topN_le hok.row h0 n (Nat.le_refl _)
    generalize topN (ns 0) zs n = T at *
    clear he he0 hok HK HL
    generalize ns 0 = C at *
    generalize hZ : (fun m s => wayZ z zs m s n) = Z at HP
    have HZ : Hid (∀ i s, wayZ z zs i s n = Z i s) := fun i s => by rw [← hZ]
    clear hZ
    go_enter Tryd.func16, Tryd.ntmps16
    go_wp2_with fail
    rw [← HW1.out]
    refine hV.mono ?_
    rintro e w2 ⟨rfl, hb2⟩
    have HB2 := Hid.mk' hb2
    have hc0 := (HC.out w2 hb2).1
    have hc1 := (HC.out w2 hb2).2
    clear hb2 hV
    go_wp2_with fail
    refine (HWO.out w2 HB2.out).mono ?_
    rintro e w3 ⟨g, rb, rfl, hG⟩
    have HG : Hid (GridB w2 w3 g C T C rb (fun i s => .int .i64 (Z i s))) := hG.cast fun i s _ _ => by rw [HZ.out]
    clear hG hc0 hc1 HWO
    have hCI : (C : Int) ≤ 16 := by omega
    have h0I : (0 : Int) < (C : Int) := by omega
    go_wp2_with fail
    go_loopw [17] (fun t wr => ∃ k : Nat, k ≤ C ∧ t = .int .i64 k ∧ Hid (Below w3.heap.size w3 wr) ∧ Hid (perfB Z T k = true)) (fun t _ => C - (intOf t).toNat)
    case atStart => exact ⟨0, Nat.zero_le _, rfl, Below.refl _ _, rfl⟩
    case round =>
      obtain ⟨k, hk, rfl, HB, HS⟩ := hrel
      rcases Nat.lt_or_ge k C with h1 | h1
      · have hkI : (k : Int) < (C : Int) := by omega
        have hk0 : (0 : Int) ≤ (k : Int) := by omega
        have hG := HG.out.later HB.out
        have hck := hG.made k h1
        have hcz := hG.made 0 h0
        have hEq := Equal_rows (rb k) 0 T (rb 0) 0 T T (Z k) (Z 0) wr (fun i hi => by rw [Nat.zero_add]; exact (hG.rows k h1).row i hi) (fun i hi => by rw [Nat.zero_add]; exact (hG.rows 0 h0).row i hi) (by omega)
        clear hG
        cases hs : sameB (Z k) (Z 0) T with
        | true =>
          have HN := Hid.mk' (perfB_next HS.out hs)
          rw [hs] at hEq
          clear hs
          go_wp2_with fail
          refine hEq.mono ?_
          rintro e w4 ⟨rfl, hb4⟩
          have HB4 := Hid.mk' (below_chS HB.out hb4)
          clear hb4 hEq
          go_wp2_with fail
          exact ⟨⟨k + 1, h1, by go_num, HB4, HN⟩, by simp [intOf]; omega⟩
        | false =>
          have HN := Hid.mk' (perfB_no hs h1)
          rw [hs] at hEq
          clear hs
          go_wp2_with fail
          refine hEq.mono ?_
          rintro e w4 ⟨rfl, hb4⟩
          have HB4 := Hid.mk' (below_chS HB.out hb4)
          clear hb4 hEq
          go_wp2_with fail
          go_ret2
          exact ⟨by rw [HP.out, HE0.out, errV_zero, HN.out]; rfl, below_chS HB1.out (below_chS HB2.out (below_chS HG.out.below HB4.out))⟩
      · obtain rfl : k = C := by omega
        go_wp2_with fail
        go_ret2
        exact ⟨by rw [HP.out, HE0.out, errV_zero, HS.out]; rfl, below_chS HB1.out (below_chS HB2.out (below_chS HG.out.below HB.out))⟩

/-- The closed fact's cipher. -/
def padZ (i k : Nat) : Int := if i = k then 0 else 1
theorem pad_err : ciErr 2 (fun _ => 1) 2 (fun _ => 2) padZ = 0 := by decide +kernel
theorem pad_perf : perfA 2 (fun _ => 1) 2 (fun _ => 2) padZ = true := by decide +kernel
theorem topS_cell (W : World) (c : Array Value) (t : TypeId) {b : Nat} (j : Nat) (hb : b = W.heap.size) : (W.alloc (.cells c t)).cell? ⟨b, j, none⟩ = c[j]? := by subst hb; simp
theorem pad_table (w : World) (t1 t2 : TypeId) : TabAt (((w.alloc (.cells #[.int .i64 0, .int .i64 1] t1)).alloc (.cells #[.int .i64 1, .int .i64 0] t1)).alloc (.cells #[.slice (some ⟨w.heap.size, 0, none⟩) 2 2, .slice (some ⟨w.heap.size + 1, 0, none⟩) 2 2] t2)) (.slice (some ⟨w.heap.size + 1 + 1, 0, none⟩) 2 2) 2 (fun i => .slice (some ⟨w.heap.size + i, 0, none⟩) 2 2) (fun _ => 2) padZ := by
  refine Or.inr ⟨_, _, _, rfl, by decide, fun i hi => ⟨?_, Or.inr ⟨_, _, _, rfl, (by show 0 < 2; decide), fun k hk => ?_⟩⟩⟩
  · rcases (show i = 0 ∨ i = 1 by omega) with rfl | rfl
    · exact topS_cell _ _ _ _ (by simp)
    · exact topS_cell _ _ _ _ (by simp)
  · have hk2 : k < 2 := hk
    rcases (show i = 0 ∨ i = 1 by omega) with rfl | rfl
    · rw [World.cell?_alloc_lt _ _ _ (by simp; omega), World.cell?_alloc_lt _ _ _ (by simp)]
      rcases (show k = 0 ∨ k = 1 by omega) with rfl | rfl
      · exact topS_cell _ _ _ _ rfl
      · exact topS_cell _ _ _ _ rfl
    · rw [World.cell?_alloc_lt _ _ _ (by simp)]
      rcases (show k = 0 ∨ k = 1 by omega) with rfl | rfl
      · exact topS_cell _ _ _ _ (by simp)
      · exact topS_cell _ _ _ _ (by simp)
set_option maxRecDepth 100000 in
set_option maxHeartbeats 4000000 in
theorem pad_any (a : Nat → Addr) (w : World) (hE : Errs w a) : Calls Tryd.prog 5 #[] w fun e w' => e = .returned (.bool true) ∧ Below w.heap.size w w' := by
  obtain ⟨W0, hW0⟩ : ∃ W0, W0 = w.alloc (.cells #[.int .i64 1, .int .i64 1] 3) := ⟨_, rfl⟩
  obtain ⟨W3, hW3⟩ : ∃ W3, W3 = ((W0.alloc (.cells #[.int .i64 0, .int .i64 1] 3)).alloc (.cells #[.int .i64 1, .int .i64 0] 3)).alloc (.cells #[.slice (some ⟨W0.heap.size, 0, none⟩) 2 2, .slice (some ⟨W0.heap.size + 1, 0, none⟩) 2 2] 22) := ⟨_, rfl⟩
  have hs0 : W0.heap.size = w.heap.size + 1 := by rw [hW0]; simp
  have hb0 : Below w.heap.size w W0 := by rw [hW0]; exact (Below.refl _ _).alloc (Nat.le_refl _) _
  have hb3 : Below W0.heap.size W0 W3 := by rw [hW3]; exact (((Below.refl _ _).alloc (Nat.le_refl _) _).alloc (by simp) _).alloc (by simp; omega) _
  have htab : TabAt W3 (.slice (some ⟨W0.heap.size + 1 + 1, 0, none⟩) 2 2) 2 (fun i => .slice (some ⟨W0.heap.size + i, 0, none⟩) 2 2) (fun _ => 2) padZ := by rw [hW3]; exact pad_table W0 _ _
  have hnum : NumsAt W0 (.slice (some ⟨w.heap.size, 0, none⟩) 2 2) 2 (fun _ => 1) := by
    refine Or.inr ⟨_, _, _, rfl, by decide, fun i hi => ?_⟩
    rw [hW0]
    rcases (show i = 0 ∨ i = 1 by omega) with rfl | rfl
    · exact topS_cell _ _ _ _ rfl
    · exact topS_cell _ _ _ _ rfl
  have hT := Perfect_any a _ _ 2 (fun _ => 1) 2 _ (fun _ => 2) padZ W3 (hE.below (below_chS hb0 hb3)) (hnum.later hb3) htab (by decide) (by decide) (fun _ _ => by decide)
  rw [pad_err, pad_perf, errV_zero] at hT
  have HB3 := Hid.mk' (below_chS hb0 hb3)
  rw [hW3, hs0, hW0] at hT
  have HW3 := Hid.mk' hW3
  have HW0 := Hid.mk' hW0
  have HS0 := Hid.mk' hs0
  clear htab hnum hb0 hb3 hE hW3 hW0 hs0
  go_enter Tryd.func5, Tryd.ntmps5
  go_wp2_with fail
  refine hT.mono ?_
  clear hT
  rintro e w5 ⟨rfl, hb5⟩
  rw [← HS0.out, ← HW0.out, ← HW3.out] at hb5
  have HB5 := Hid.mk' (below_chS HB3.out hb5)
  clear hb5
  go_wp2_with fail
  go_ret
  exact ⟨rfl, HB5.out⟩
end Go.Proofs.YtdlbnolnkmhdcaaDoor
