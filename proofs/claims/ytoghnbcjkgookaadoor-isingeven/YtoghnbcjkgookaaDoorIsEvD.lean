/- The document's EvenOf: each bond in or not. -/
import Derived.Test.YtoghnbcjkgookaaDoorIsOdd
namespace Go.Proofs.YtoghnbcjkgookaaDoor
open Go.RowKit

/-- What the bonds that are left put in. -/
def putE (p q : Nat → Nat) (m r o many : Nat) (f : Nat → Nat) (k : Nat) : Nat := f k + if many ≤ k then subN (endR p q m r) o (k - many) else 0
theorem putE_last (p q : Nat → Nat) (m o many : Nat) (f : Nat → Nat) (k : Nat) : putE p q m 0 o many f k = f k + if o = 0 then (if many = k then 1 else 0) else 0 := by
  unfold putE
  congr 1
  by_cases h : many ≤ k
  · rw [if_pos h, endR, subN]
    by_cases h1 : o = 0
    · rw [if_pos h1]
      by_cases h2 : many = k
      · rw [if_pos h2, if_pos ⟨h1, by omega⟩]
      · rw [if_neg h2, if_neg (fun e => h2 (by omega))]
    · rw [if_neg h1, if_neg (fun e => h1 e.1)]
  · rw [if_neg h]
    split
    · rw [if_neg (by omega)]
    · rfl
theorem putE_next (p q : Nat → Nat) (m r o many : Nat) (f : Nat → Nat) (k : Nat) : putE p q m r (o ^^^ endB p q (m - (r + 1))) (many + 1) (putE p q m r o many f) k = putE p q m (r + 1) o many f k := by
  unfold putE
  rw [endR, Nat.add_assoc]
  congr 1
  by_cases h : many ≤ k
  · rw [if_pos h, if_pos h]
    rcases hk : k - many with _ | j
    · rw [if_neg (by omega), subN, Nat.add_zero]
    · rw [if_pos (by omega), subN, show k - (many + 1) = j by omega]
  · rw [if_neg h, if_neg h, if_neg (by omega)]
theorem putE_le (p q : Nat → Nat) (m r o many : Nat) (f : Nat → Nat) (k : Nat) : putE p q m r o many f k ≤ f k + 2 ^ r := by
  unfold putE
  have h := subN_le (endR p q m r) o (k - many)
  rw [endR_length] at h
  split
  · omega
  · omega

/-- All that lay is as it was, but for one block. -/
structure ButG (g : Nat) (w w' : World) : Prop where
  size : w.heap.size ≤ w'.heap.size
  block : ∀ k, k < w.heap.size → k ≠ g → w'.heap[k]? = w.heap[k]?
theorem ButG.of {g : Nat} {w w' : World} (h : Below w.heap.size w w') : ButG g w w' := ⟨h.size, fun k hk _ => h.block k hk⟩
theorem ButG.trans {g : Nat} {a b c : World} (h : ButG g a b) (k : ButG g b c) : ButG g a c := ⟨Nat.le_trans h.size k.size, fun i hi hn => by rw [k.block i (Nat.lt_of_lt_of_le hi h.size) hn, h.block i hi hn]⟩
theorem ButG.put (g : Nat) (w : World) (o : Nat) (x : Value) : ButG g w (w.setCell ⟨g, o, none⟩ x) := ⟨by simp, fun k _ hn => Below.heap_setCell _ _ _ _ (fun e => hn e)⟩
theorem ButG.cell {g : Nat} {w w' : World} (h : ButG g w w') {p : Addr} {x : Value} (hp : w.cell? p = some x) (hn : p.block ≠ g) : w'.cell? p = some x := by
  rw [← hp]
  exact World.cell?_of_block (w := w) (h.block p.block (cell_lt hp) hn)

set_option maxRecDepth 100000 in
set_option maxHeartbeats 4000000 in
theorem evenFrom_any (n m : Nat) (ad : Option Addr) (cap : Nat) (p q : Nat → Nat) (w : World) (hG : EdAt w (.slice ad m cap) m (fun i => (p i : Int)) (fun i => (q i : Int))) (hn : n ≤ 14) (hm : m ≤ 12) (hpq : ∀ i, i < m → p i < n ∧ q i < n ∧ p i ≠ q i) (g : Nat) :
    ∀ (r : Nat), r ≤ m → ∀ (o many : Nat) (f : Nat → Nat) (W : World), o < 2 ^ n → many + r ≤ m → (∀ k, f k + 2 ^ r ≤ 8192) → Fills w W g (m + 1) (fun k => ((f k : Nat) : Int)) →
    Calls Tryd.prog 31 #[.agg #[.int .i64 n, .slice ad m cap], .int .i64 ((m - r : Nat) : Int), .int .i64 o, .int .i64 many, .slice (some ⟨g, 0, none⟩) (m + 1) (m + 1)] W fun e w' => e = .returned (.tuple #[]) ∧ Fills w w' g (m + 1) (fun k => ((putE p q m r o many f k : Nat) : Int)) ∧ ButG g W w'
  | 0, _, o, many, f, W, ho, hmr, hf, hF => by
    obtain ⟨w1, hw1⟩ : ∃ w1, w1 = W.alloc (.cells #[.int .i64 n, .slice ad m cap] 24) := ⟨_, rfl⟩
    have hb1 : Below W.heap.size W w1 := by rw [hw1]; exact (Below.refl _ _).alloc (Nat.le_refl _) _
    have hc1 : w1.cell? ⟨W.heap.size, 1, none⟩ = some (.slice ad m cap) := by rw [hw1]; go_simp
    have hF1 := hF.later hb1
    have cu := hF1.row many (by omega)
    have fu := hF1.fz many (by omega)
    rw [Nat.zero_add] at cu fu
    have HF1 := Hid.mk' hF1
    have HW1 := Hid.mk' hw1
    have HX1 : Hid (ButG g W w1) := .of hb1
    have hmI : (m : Int) ≤ 12 := by omega
    have hm0 : (0 : Int) ≤ (m : Int) := by omega
    have hk1 : (many : Int) ≤ (m : Int) := by omega
    have hk0 : (0 : Int) ≤ (many : Int) := by omega
    have hle := hf many
    have hleI : ((f many : Nat) : Int) ≤ 8192 := by omega
    have hle0 : (0 : Int) ≤ ((f many : Nat) : Int) := by omega
    have HN := Hid.mk' (hF1.inc (u := many) (by omega))
    have HL := Hid.mk' (putE_last p q m o many f)
    rw [Nat.sub_zero]
    clear hF hF1 hb1 hw1 hf hle hG hpq hmr
    by_cases h0 : o = 0
    · subst h0
      go_enter Tryd.func31, Tryd.ntmps31
      go_upto_region 1 with fail
      rw [← HW1.out]
      go_wp2_with fail
      refine bodyPost_ret (v := .tuple #[]) (by simp [results, Tryd.results31, go_sem]) rfl ⟨rfl, Fills.congr HN.out (fun i _ => by rw [HL.out i]; simp), HX1.out.trans (ButG.put _ _ _ _)⟩
    · have hd : ((o : Int) == 0) = false := by simp; omega
      have HZ : Hid (∀ k, putE p q m 0 o many f k = f k) := fun k => by rw [HL.out k, if_neg h0, Nat.add_zero]
      clear h0
      go_enter Tryd.func31, Tryd.ntmps31
      go_upto_region 1 with fail
      rw [← HW1.out]
      go_wp2_with fail
      refine bodyPost_ret (v := .tuple #[]) (by simp [results, Tryd.results31, go_sem]) rfl ⟨rfl, Fills.congr HF1.out (fun i _ => by rw [HZ.out i]), HX1.out⟩
  | r + 1, hr, o, many, f, W, ho, hmr, hf, hF => by
    have HI := Hid.mk' (evenFrom_any n m ad cap p q w hG hn hm hpq g r (by omega))
    obtain ⟨w1, hw1⟩ : ∃ w1, w1 = W.alloc (.cells #[.int .i64 n, .slice ad m cap] 24) := ⟨_, rfl⟩
    have hb1 : Below W.heap.size W w1 := by rw [hw1]; exact (Below.refl _ _).alloc (Nat.le_refl _) _
    have hc0 : w1.cell? ⟨W.heap.size, 0, none⟩ = some (.int .i64 n) := by rw [hw1]; go_simp
    have hc1 : w1.cell? ⟨W.heap.size, 1, none⟩ = some (.slice ad m cap) := by rw [hw1]; go_simp
    have hgW : g < W.heap.size := cell_lt (hF.row 0 (Nat.succ_pos _))
    have HC : Hid (∀ V, ButG g w1 V → V.cell? ⟨W.heap.size, 0, none⟩ = some (.int .i64 n) ∧ V.cell? ⟨W.heap.size, 1, none⟩ = some (.slice ad m cap)) := fun V h => ⟨h.cell hc0 (by show W.heap.size ≠ g; omega), h.cell hc1 (by show W.heap.size ≠ g; omega)⟩
    have HX1 : Hid (ButG g W w1) := .of hb1
    have HF1 := Hid.mk' (hF.later hb1)
    have HW1 := Hid.mk' hw1
    obtain ⟨j, hj⟩ : ∃ j, j = m - (r + 1) := ⟨_, rfl⟩
    have hjr : m - r = j + 1 := by omega
    have hjm : j < m := by omega
    have hpw : 2 ^ (r + 1) = 2 ^ r + 2 ^ r := by rw [Nat.pow_succ]; omega
    have HI1 := Hid.mk' (HI.out o many f w1 ho (by omega) (fun k => by have := hf k; have := Nat.two_pow_pos r; omega) HF1.out)
    have hP := (hpq j hjm).1
    have hQ := (hpq j hjm).2.1
    have HEX := Hid.mk' (endB_xor (hpq j hjm).2.2)
    have HEL : Hid (endB p q j < 2 ^ n) := endB_lt hP hQ
    have HOL : Hid (o ^^^ endB p q j < 2 ^ n) := Nat.xor_lt_two_pow ho HEL.out
    have HT : Hid (2 ^ n ≤ 16384) := Nat.pow_le_pow_right (n := 2) (by decide) hn
    have HI2 : Hid (∀ V, Fills w V g (m + 1) (fun k => ((putE p q m r o many f k : Nat) : Int)) → Calls Tryd.prog 31 #[.agg #[.int .i64 n, .slice ad m cap], .int .i64 ((m - r : Nat) : Int), .int .i64 (o ^^^ endB p q j : Nat), .int .i64 (many + 1 : Nat), .slice (some ⟨g, 0, none⟩) (m + 1) (m + 1)] V fun e w' => e = .returned (.tuple #[]) ∧ Fills w w' g (m + 1) (fun k => ((putE p q m (r + 1) o many f k : Nat) : Int)) ∧ ButG g V w') := fun V hV => by
      refine (HI.out (o ^^^ endB p q j) (many + 1) (putE p q m r o many f) V HOL.out (by omega) (fun k => ?_) hV).mono ?_
      · have h1 := putE_le p q m r o many f k
        have h2 := hf k
        omega
      · rintro e w' ⟨he, h1, h2⟩
        refine ⟨he, h1.congr fun k _ => ?_, h2⟩
        rw [hj, putE_next]
    have HGV : Hid (∀ V, Below w.heap.size w V → EdAt V (.slice ad m cap) m (fun i => (p i : Int)) (fun i => (q i : Int))) := fun V hb => hG.later hb
    have hmI : (m : Int) ≤ 12 := by omega
    have hm0 : (0 : Int) ≤ (m : Int) := by omega
    have hk1 : (many : Int) ≤ 12 := by omega
    have hk0 : (0 : Int) ≤ (many : Int) := by omega
    have hjI : (j : Int) < (m : Int) := by omega
    have hj0 : (0 : Int) ≤ (j : Int) := by omega
    have hjd : ((j : Int) == (m : Int)) = false := by simp; omega
    have hoI : (o : Int) ≤ 16384 := by have := HT.out; omega
    have ho0 : (0 : Int) ≤ (o : Int) := by omega
    rw [hjr, show ((j + 1 : Nat) : Int) = (j : Int) + 1 by omega] at HI1 HI2
    rw [← hj]
    rw [show ((many + 1 : Nat) : Int) = (many : Int) + 1 by omega] at HI2
    obtain ⟨E, hE⟩ : ∃ E, E = endB p q j := ⟨_, rfl⟩
    obtain ⟨O, hO⟩ : ∃ O, O = o ^^^ E := ⟨_, rfl⟩
    have hxo : bits .xor .i64 (o : Int) (E : Int) = (O : Int) := by
      have h1 := HT.out
      have h2 := HEL.out
      rw [← hE] at h2
      rw [hO]; exact i64_xorN _ _ (by omega) (by omega)
    rw [← hE, ← hO] at HI2
    rw [← hE] at HEX
    clear hF hb1 hw1 hf hG hpq hmr hj hjr hpw hr ho hm hE hO hgW HI
    go_enter Tryd.func31, Tryd.ntmps31
    go_upto_region 1 with fail
    rw [← HW1.out]
    go_wp2_with fail
    refine HI1.out.mono ?_
    rintro e w2 ⟨rfl, hF2, hX2⟩
    clear hc0 hc1
    obtain ⟨c0, c1⟩ := HC.out _ hX2
    have HF2 := Hid.mk' hF2
    have HX2 := Hid.mk' hX2
    clear hF2 hX2 HI1
    obtain ⟨b, o', rfl, hT⟩ := (HGV.out _ HF2.out.below).at hjm
    have e0 : w2.cell? ⟨b, o' + j * 2, none⟩ = some (.int .i64 ((p j : Nat) : Int)) := (hT j hjm).1
    have e1 : w2.cell? ⟨b, o' + j * 2 + 1, none⟩ = some (.int .i64 ((q j : Nat) : Int)) := (hT j hjm).2
    obtain ⟨P, hPe⟩ : ∃ P, P = p j := ⟨_, rfl⟩
    obtain ⟨Q, hQe⟩ : ∃ Q, Q = q j := ⟨_, rfl⟩
    rw [← hPe] at e0 hP HEX
    rw [← hQe] at e1 hQ HEX
    have hPI : (P : Int) ≤ 13 := by omega
    have hQI : (Q : Int) ≤ 13 := by omega
    have hP0 : (0 : Int) ≤ (P : Int) := by omega
    have hQ0 : (0 : Int) ≤ (Q : Int) := by omega
    obtain ⟨xP, hxP⟩ : ∃ x : Nat, x = 2 ^ P := ⟨_, rfl⟩
    obtain ⟨xQ, hxQ⟩ : ∃ x : Nat, x = 2 ^ Q := ⟨_, rfl⟩
    have hsP : IntKind.i64.wrap (2 ^ P : Int) = (xP : Int) := by rw [shl_wrap P (by omega), hxP]; simp
    have hsQ : IntKind.i64.wrap (2 ^ Q : Int) = (xQ : Int) := by rw [shl_wrap Q (by omega), hxQ]; simp
    have hor : bits .xor .i64 (xP : Int) (xQ : Int) = (E : Int) := by
      rw [i64_xorN xP xQ (by rw [hxP]; exact Nat.pow_lt_pow_right (by decide) (by omega)) (by rw [hxQ]; exact Nat.pow_lt_pow_right (by decide) (by omega)), hxP, hxQ, HEX.out]
    clear hPe hQe hxP hxQ hT
    go_wp2_with fail
    go_quiet (fail)
    have HF3 := Hid.mk' (HF2.out.later (below_drewN (Below.refl _ _) nq))
    have HX3 : Hid (ButG g w1 (w2.drewN nq)) := HX2.out.trans (.of (below_drewN (Below.refl _ _) nq))
    generalize w2.drewN nq = Wq at *
    clear e0 e1 c0 c1 HF2 HX2
    obtain ⟨c0, c1⟩ := HC.out _ HX3.out
    go_wp2_with fail
    refine (HI2.out _ HF3.out).mono ?_
    rintro e w5 ⟨rfl, hF5, hX5⟩
    have HF5 := Hid.mk' hF5
    have HX5 := Hid.mk' (HX1.out.trans (HX3.out.trans hX5))
    clear hF5 hX5 c0 c1
    go_wp2_with fail
    first
      | (go_end0; exact ⟨rfl, HF5.out, HX5.out⟩)
      | exact bodyPost_ret (v := .tuple #[]) (by simp [results, Tryd.results31, go_sem]) rfl ⟨rfl, HF5.out, HX5.out⟩

set_option maxRecDepth 100000 in
set_option maxHeartbeats 4000000 in
theorem EvenOf_any (n m : Nat) (ev : Value) (p q : Nat → Nat) (w : World) (hG : EdAt w ev m (fun i => (p i : Int)) (fun i => (q i : Int))) (hn : n ≤ 14) (hm : m ≤ 12) (hpq : ∀ i, i < m → p i < n ∧ q i < n ∧ p i ≠ q i) :
    Calls Tryd.prog 18 #[.agg #[.int .i64 n, ev]] w fun e w' => ∃ g, e = .returned (.slice (some ⟨g, 0, none⟩) (m + 1) (m + 1)) ∧ Fills w w' g (m + 1) (fun k => ((evC p q m k 0 : Nat) : Int)) := by
  obtain ⟨i0, hi, hz0, hz1, hz2⟩ := info_parts Tryd.infoInt
  have HINF : Hid (Tryd.prog.info? 3 = some i0 ∧ i0.zero = some (.int .i64 0) ∧ i0.size = 1 ∧ i0.bytes = 8) := ⟨hi, hz0, hz1, hz2⟩
  clear hi hz0 hz1 hz2
  obtain ⟨ad, cap, rfl, -⟩ := id hG
  obtain ⟨w1, hw1⟩ : ∃ w1, w1 = w.alloc (.cells #[.int .i64 n, .slice ad m cap] 24) := ⟨_, rfl⟩
  have hb1 : Below w.heap.size w w1 := by rw [hw1]; exact (Below.refl _ _).alloc (Nat.le_refl _) _
  have hc0 : w1.cell? ⟨w.heap.size, 0, none⟩ = some (.int .i64 n) := by rw [hw1]; go_simp
  have hc1 : w1.cell? ⟨w.heap.size, 1, none⟩ = some (.slice ad m cap) := by rw [hw1]; go_simp
  have HC : Hid (∀ W, Below w1.heap.size w1 W → W.cell? ⟨w.heap.size, 0, none⟩ = some (.int .i64 n) ∧ W.cell? ⟨w.heap.size, 1, none⟩ = some (.slice ad m cap)) := fun W hb => ⟨by rw [hb.cell (cell_lt hc0)]; exact hc0, by rw [hb.cell (cell_lt hc1)]; exact hc1⟩
  have HW1 := Hid.mk' hw1
  have HB1 := Hid.mk' hb1
  have hmI : (m : Int) ≤ 12 := by omega
  have hm0 : (0 : Int) ≤ (m : Int) := by omega
  have HP2 : Hid (2 ^ m ≤ 8192) := Nat.le_trans (Nat.pow_le_pow_right (n := 2) (by decide) hm) (by decide)
  have HEF : Hid (∀ W g, Fills w1 W g (m + 1) (fun _ => 0) → Calls Tryd.prog 31 #[.agg #[.int .i64 n, .slice ad m cap], .int .i64 0, .int .i64 0, .int .i64 0, .slice (some ⟨g, 0, none⟩) (m + 1) (m + 1)] W fun e w' => e = .returned (.tuple #[]) ∧ Fills w1 w' g (m + 1) (fun k => ((evC p q m k 0 : Nat) : Int))) := fun W g hF => by
    have h := evenFrom_any n m ad cap p q w1 (hG.later hb1) hn hm hpq g m (Nat.le_refl _) 0 0 (fun _ => 0) W (Nat.two_pow_pos n) (by omega) (fun _ => by have := HP2.out; omega) hF
    rw [Nat.sub_self] at h
    refine h.mono ?_
    rintro e w' ⟨he, h1, _⟩
    refine ⟨he, h1.congr fun k _ => ?_⟩
    rw [putE, if_pos (Nat.zero_le _), endR_whole, Nat.sub_zero, Nat.zero_add]
    rfl
  clear hG hb1 hw1 hpq
  go_enter Tryd.func18, Tryd.ntmps18
  go_upto_region 1 with fail
  rw [← HW1.out]
  go_wp2_with (at_make; go_must (refine wpList_make_full _ rfl _ _ _ rfl w1.heap.size 3 i0 _ 1 Tryd.underlying34 HINF.out.1 HINF.out.2.1 HINF.out.2.2.1 .i64 .i64 _ _ (m + 1) rfl rfl (by go_num) (by go_num) (by rw [HINF.out.2.2.2]; omega) (by unfold maxLen; omega) (Nat.le_refl _) ?_; intro w3 hown3 hgrow3; have HF3 := Hid.mk' (fills_made hown3 (made_zero (m + 1)) hgrow3); obtain ⟨k0, k1⟩ := HC.out w3 HF3.out.below; clear hown3 hgrow3 hc0 hc1))
  refine (HEF.out _ _ HF3.out).mono ?_
  rintro e w5 ⟨rfl, hF5⟩
  have HF5 := Hid.mk' hF5
  clear hF5 k0 k1
  go_wp2_with fail
  go_ret
  exact ⟨_, rfl, HF5.out.row, HF5.out.fz, below_chain HB1.out HF5.out.below, Nat.le_trans HB1.out.size HF5.out.hg⟩
end Go.Proofs.YtoghnbcjkgookaaDoor
