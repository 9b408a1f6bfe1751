/- IsingDuality: the law. -/
import Derived.Test.YtoghnbcjkgookabDoorIsBond
import Derived.Test.YtoghnbcjkgookabDoorIsEv
import Derived.Test.YtoghnbcjkgookabDoorIsDua
namespace Go.Proofs.YtoghnbcjkgookabDoor
open Go.RowKit

theorem okE_sy {n : Nat} {E : List (Nat × Nat)} (h : okE n E = true) (hn : n ≤ 14) (hl : E.length ≤ 30) : syE (n : Int) E.length (fsE E) (snE E) = 0 := syE_right (p := fsN E) (q := snN E) hn hl (okE_at h)
theorem in_allD {h l : Nat} (hg : isGr h l) (hs : h * l ≤ 14) : (h, l) ∈ allD := by
  obtain ⟨h1, h2, h3, h4⟩ := hg
  rcases (show h = 2 ∨ h = 3 ∨ h = 4 by omega) with rfl | rfl | rfl
  · rcases (show l = 2 ∨ l = 3 ∨ l = 4 ∨ l = 5 ∨ l = 6 ∨ l = 7 by omega) with rfl | rfl | rfl | rfl | rfl | rfl <;> decide
  · rcases (show l = 2 ∨ l = 3 ∨ l = 4 by omega) with rfl | rfl | rfl <;> decide
  · rcases (show l = 2 ∨ l = 3 by omega) with rfl | rfl <;> decide

theorem nums_cell {w : World} {g n c : Nat} {f : Nat → Nat} (h : NumsAt w (.slice (some ⟨g, 0, none⟩) n c) n (fun k => ((f k : Nat) : Int))) {k : Nat} (hk : k < n) : w.cell? ⟨g, k, none⟩ = some (.int .i64 ((f k : Nat) : Int)) := by
  rcases h with ⟨_, _, _, h0⟩ | ⟨b, o, cap, hv, _, hr⟩
  · omega
  · simp only [Value.slice.injEq, Option.some.injEq, Addr.mk.injEq, and_true, true_and] at hv
    obtain ⟨⟨rfl, rfl⟩, rfl⟩ := hv
    have h9 := hr k hk
    rwa [Nat.zero_add] at h9
/-- All that the law asks of a grid that is not too large. -/
theorem dual_all {h l : Nat} (hg : isGr h l) (hs : syE ((h * l : Nat) : Int) (grE' h l).length (fsE (grE' h l)) (snE (grE' h l)) = 0) :
    h * l ≤ 14 ∧ (h - 1) * (l - 1) + 1 ≤ 14 ∧ (grE' h l).length ≤ 30 ∧ (faB h l l).length = (grE' h l).length ∧ okE (h * l) (grE' h l) = true ∧ okE ((h - 1) * (l - 1) + 1) (faB h l l) = true ∧
    ∀ k, k < (grE' h l).length + 1 → stK (fsN (faB h l l)) (snN (faB h l l)) ((h - 1) * (l - 1) + 1) (faB h l l).length k = 2 * evC (fsN (grE' h l)) (snN (grE' h l)) (grE' h l).length k 0 ∧ stK (fsN (grE' h l)) (snN (grE' h l)) (h * l) (grE' h l).length k = 2 * evC (fsN (faB h l l)) (snN (faB h l l)) (faB h l l).length k 0 := by
  have hN := (syE_zero hs).2.1
  have hN' : h * l ≤ 14 := by omega
  have hc := lookedD _ (in_allD hg hN')
  simp only [chkD, Bool.and_eq_true, decide_eq_true_eq, beq_iff_eq] at hc
  obtain ⟨⟨⟨⟨⟨c1, c2⟩, c3⟩, c4⟩, c5⟩, c6⟩ := hc
  have hF : (h - 1) * (l - 1) + 1 ≤ 14 := by
    obtain ⟨h1, h2, h3, h4⟩ := hg
    obtain ⟨a, rfl⟩ : ∃ a, h = a + 1 := ⟨h - 1, by omega⟩
    obtain ⟨b, rfl⟩ : ∃ b, l = b + 1 := ⟨l - 1, by omega⟩
    have e : (a + 1) * (b + 1) = a * b + a + b + 1 := by rw [Nat.succ_mul, Nat.mul_add]; omega
    rw [Nat.add_sub_cancel, Nat.add_sub_cancel]
    omega
  have hb : ∀ (E : List (Nat × Nat)), E.length ≤ 30 → ∀ k, evC (fsN E) (snN E) E.length k 0 ≤ 2 ^ 30 := fun E hE k => Nat.le_trans (evC_le _ _ _ _ _) (Nat.pow_le_pow_right (by decide) hE)
  refine ⟨hN', hF, c2, c1.symm, c3, c4, fun k hk => ⟨?_, ?_⟩⟩
  · exact dual_one c4 hF (by omega) c1 (hb _ c2) c5 k (by omega)
  · exact dual_one c3 hN' c2 c1.symm (hb _ (by omega)) c6 k hk

set_option maxRecDepth 100000 in
set_option maxHeartbeats 4000000 in
theorem IsingDuality_no (a : Nat → Addr) (h l : Int) (w : World) (hE : Errs w a) (hst : ∀ W, Below w.heap.size w W → Calls Tryd.prog 5 #[.int .i64 h, .int .i64 l] W fun e w' => e = .returned (.tuple #[.agg #[.int .i64 0, .slice none 0 0], errV a 2]) ∧ Below W.heap.size W w') :
    Calls Tryd.prog 3 #[.int .i64 h, .int .i64 l] w fun e w' => e = .returned (.bool true) ∧ Below w.heap.size w w' := by
  have HPE := Hid.mk' (bond_any a w hE)
  have HST := Hid.mk' hst
  have HR2 : Hid (errV a 2 = .iface 44 (.pointer (some (a 1)))) := rfl
  rw [HR2.out] at HST
  clear hE hst
  go_enter Tryd.func3, Tryd.ntmps3
  go_wp2_with fail
  refine HPE.out.mono ?_
  rintro e w2 ⟨rfl, hb2⟩
  have HB2 := Hid.mk' hb2
  clear hb2 HPE
  go_wp2_with fail
  refine (HST.out _ HB2.out).mono ?_
  rintro e w3 ⟨rfl, hb3⟩
  have HB3 := Hid.mk' (below_chain HB2.out hb3)
  clear hb3 HST
  go_wp2_with fail
  go_ret
  exact ⟨rfl, HB3.out.alloc HB3.out.size _⟩

set_option maxRecDepth 100000 in
set_option maxHeartbeats 8000000 in
theorem IsingDuality_ok (a : Nat → Addr) (h l : Nat) (w : World) (hE : Errs w a) (hg : isGr h l) (hs : syE ((h * l : Nat) : Int) (grE' h l).length (fsE (grE' h l)) (snE (grE' h l)) = 0) :
    Calls Tryd.prog 3 #[.int .i64 h, .int .i64 l] w fun e w' => e = .returned (.bool true) ∧ Below w.heap.size w w' := by
  obtain ⟨d1, d2, d3, d4, d5, d6, d7⟩ := dual_all hg hs
  have HPE := Hid.mk' (bond_any a w hE)
  have HGR : Hid (∀ W, Below w.heap.size w W → Calls Tryd.prog 5 #[.int .i64 h, .int .i64 l] W fun e w' => ∃ v, e = .returned (.tuple #[.agg #[.int .i64 ((h * l : Nat) : Int), v], .nilIface]) ∧ EdAt w' v (grE' h l).length (fsE (grE' h l)) (snE (grE' h l)) ∧ Below W.heap.size W w') := fun W hb => by
    refine (Grid_yes a h l W (hE.below hb) hg).mono ?_
    rintro e w' ⟨u, rfl, hu, hb'⟩
    rw [hs] at hu
    obtain ⟨v, rfl, hv⟩ := hu
    exact ⟨v, rfl, hv, hb'⟩
  have hs2 : syE (((h - 1) * (l - 1) + 1 : Nat) : Int) (faB h l l).length (fsE (faB h l l)) (snE (faB h l l)) = 0 := okE_sy d6 d2 (by omega)
  have HFR : Hid (∀ W, Below w.heap.size w W → Calls Tryd.prog 6 #[.int .i64 h, .int .i64 l] W fun e w' => ∃ v, e = .returned (.tuple #[.agg #[.int .i64 (((h - 1) * (l - 1) + 1 : Nat) : Int), v], .nilIface]) ∧ EdAt w' v (grE' h l).length (fsE (faB h l l)) (snE (faB h l l)) ∧ Below W.heap.size W w') := fun W hb => by
    refine (Faces_yes a h l W (hE.below hb) hg).mono ?_
    rintro e w' ⟨u, rfl, hu, hb'⟩
    rw [hs2] at hu
    obtain ⟨v, rfl, hv⟩ := hu
    rw [d4] at hv
    exact ⟨v, rfl, hv, hb'⟩
  have HEV : Hid (∀ (W : World) (n : Nat) (E : List (Nat × Nat)) (v : Value), Below w.heap.size w W → n ≤ 14 → E.length = (grE' h l).length → okE n E = true → EdAt W v (grE' h l).length (fsE E) (snE E) → Calls Tryd.prog 7 #[.agg #[.int .i64 (n : Int), v]] W fun e w' => ∃ g, e = .returned (.tuple #[.slice (some ⟨g, 0, none⟩) ((grE' h l).length + 1) ((grE' h l).length + 1), .nilIface]) ∧ Fills W w' g ((grE' h l).length + 1) (fun k => ((evC (fsN E) (snN E) E.length k 0 : Nat) : Int))) := fun W n E v hb hn hl hok hv => by
    have h9 := Even_ok a n (grE' h l).length v (fsN E) (snN E) W (hE.below hb) hv hn d3 (by rw [← hl]; exact okE_at hok)
    rwa [hl]
  have HSV : Hid (∀ (W : World) (n : Nat) (E : List (Nat × Nat)) (v : Value), Below w.heap.size w W → n ≤ 14 → E.length = (grE' h l).length → okE n E = true → EdAt W v (grE' h l).length (fsE E) (snE E) → Calls Tryd.prog 8 #[.agg #[.int .i64 (n : Int), v]] W fun e w' => ∃ g, e = .returned (.tuple #[.slice (some ⟨g, 0, none⟩) ((grE' h l).length + 1) ((grE' h l).length + 1), .nilIface]) ∧ Fills W w' g ((grE' h l).length + 1) (fun k => ((stK (fsN E) (snN E) n E.length k : Nat) : Int))) := fun W n E v hb hn hl hok hv => by
    have h9 := States_ok a n (grE' h l).length v (fsN E) (snN E) W (hE.below hb) hv hn d3 (by rw [← hl]; exact okE_at hok)
    rwa [hl]
  have HBD : Hid (∀ k, k < (grE' h l).length + 1 → evC (fsN (grE' h l)) (snN (grE' h l)) (grE' h l).length k 0 ≤ 1073741824 ∧ evC (fsN (faB h l l)) (snN (faB h l l)) (faB h l l).length k 0 ≤ 1073741824) := fun k _ => ⟨evC_small _ _ _ _ d3, evC_small _ _ _ _ (by omega)⟩
  have HD7 := Hid.mk' d7
  have HEG := Hid.mk' (fun W v hb hv => HEV.out W (h * l) (grE' h l) v hb d1 rfl d5 hv)
  have HEF := Hid.mk' (fun W v hb hv => HEV.out W ((h - 1) * (l - 1) + 1) (faB h l l) v hb d2 d4 d6 hv)
  have HSG := Hid.mk' (fun W v hb hv => HSV.out W (h * l) (grE' h l) v hb d1 rfl d5 hv)
  have HSF := Hid.mk' (fun W v hb hv => HSV.out W ((h - 1) * (l - 1) + 1) (faB h l l) v hb d2 d4 d6 hv)
  clear HEV HSV hs hs2 d1 d2 d4 d5 d6 d7 hE
  generalize hA : (fun k => evC (fsN (grE' h l)) (snN (grE' h l)) (grE' h l).length k 0) = A
  generalize hD : (fun k => evC (fsN (faB h l l)) (snN (faB h l l)) (faB h l l).length k 0) = D
  generalize hB : (fun k => stK (fsN (faB h l l)) (snN (faB h l l)) ((h - 1) * (l - 1) + 1) (faB h l l).length k) = B
  generalize hC : (fun k => stK (fsN (grE' h l)) (snN (grE' h l)) (h * l) (grE' h l).length k) = C
  have HK : Hid (∀ k, k < (grE' h l).length + 1 → B k = 2 * A k ∧ C k = 2 * D k ∧ A k ≤ 1073741824 ∧ D k ≤ 1073741824) := fun k hk => by
    rw [← hA, ← hB, ← hC, ← hD]
    exact ⟨(HD7.out k hk).1, (HD7.out k hk).2, (HBD.out k hk).1, (HBD.out k hk).2⟩
  have eA : ∀ k, evC (fsN (grE' h l)) (snN (grE' h l)) (grE' h l).length k 0 = A k := fun k => by rw [← hA]
  have eD : ∀ k, evC (fsN (faB h l l)) (snN (faB h l l)) (faB h l l).length k 0 = D k := fun k => by rw [← hD]
  have eB : ∀ k, stK (fsN (faB h l l)) (snN (faB h l l)) ((h - 1) * (l - 1) + 1) (faB h l l).length k = B k := fun k => by rw [← hB]
  have eC : ∀ k, stK (fsN (grE' h l)) (snN (grE' h l)) (h * l) (grE' h l).length k = C k := fun k => by rw [← hC]
  simp only [eA] at HEG
  simp only [eD] at HEF
  simp only [eB] at HSF
  simp only [eC] at HSG
  clear HBD HD7 hA hB hC hD eA eB eC eD
  generalize (fsE (grE' h l)) = fg at *
  generalize (snE (grE' h l)) = sg at *
  generalize (fsE (faB h l l)) = ff at *
  generalize (snE (faB h l l)) = sf at *
  generalize hm : (grE' h l).length = m at *
  generalize ((h * l : Nat) : Int) = NG at *
  generalize ((((h - 1) * (l - 1) + 1 : Nat)) : Int) = NF at *
  have hmI : (m : Int) ≤ 30 := by omega
  clear hm hg
  go_enter Tryd.func3, Tryd.ntmps3
  go_wp2_with fail
  refine HPE.out.mono ?_
  rintro e w2 ⟨rfl, hb2⟩
  have HB2 := Hid.mk' hb2
  clear hb2 HPE
  go_wp2_with fail
  refine (HGR.out _ HB2.out).mono ?_
  rintro e w3 ⟨v3, rfl, hv3, hb3⟩
  obtain ⟨a3, k3, rfl, -⟩ := id hv3
  obtain ⟨W4, hW4⟩ : ∃ W, W = w3.alloc (.cells #[.int .i64 NG, .slice a3 m k3] 25) := ⟨_, rfl⟩
  have hb4 : Below w3.heap.size w3 W4 := by rw [hW4]; exact (Below.refl _ _).alloc (Nat.le_refl _) _
  have c0 : W4.cell? ⟨w3.heap.size, 0, none⟩ = some (.int .i64 NG) := by rw [hW4]; go_simp
  have c1 : W4.cell? ⟨w3.heap.size, 1, none⟩ = some (.slice a3 m k3) := by rw [hW4]; go_simp
  have HC4 : Hid (∀ W, Below W4.heap.size W4 W → W.cell? ⟨w3.heap.size, 0, none⟩ = some (.int .i64 NG) ∧ W.cell? ⟨w3.heap.size, 1, none⟩ = some (.slice a3 m k3)) := fun W hb => ⟨by rw [hb.cell (cell_lt c0)]; exact c0, by rw [hb.cell (cell_lt c1)]; exact c1⟩
  have HG4 : Hid (∀ W, Below W4.heap.size W4 W → EdAt W (.slice a3 m k3) m fg sg) := fun W hb => (hv3.later hb4).later hb
  have HB4 := Hid.mk' (below_chain HB2.out (below_chain hb3 hb4))
  have HW4 := Hid.mk' hW4
  clear hW4 hb4 hv3 hb3 c0 c1 HGR
  go_wp2_with fail
  rw [← HW4.out]
  refine (HFR.out _ HB4.out).mono ?_
  rintro e w5 ⟨v5, rfl, hv5, hb5⟩
  obtain ⟨a5, k5, rfl, -⟩ := id hv5
  obtain ⟨W6, hW6⟩ : ∃ W, W = w5.alloc (.cells #[.int .i64 NF, .slice a5 m k5] 25) := ⟨_, rfl⟩
  have hb6 : Below w5.heap.size w5 W6 := by rw [hW6]; exact (Below.refl _ _).alloc (Nat.le_refl _) _
  have f0 : W6.cell? ⟨w5.heap.size, 0, none⟩ = some (.int .i64 NF) := by rw [hW6]; go_simp
  have f1 : W6.cell? ⟨w5.heap.size, 1, none⟩ = some (.slice a5 m k5) := by rw [hW6]; go_simp
  have HC6 : Hid (∀ W, Below W6.heap.size W6 W → (W.cell? ⟨w5.heap.size, 0, none⟩ = some (.int .i64 NF) ∧ W.cell? ⟨w5.heap.size, 1, none⟩ = some (.slice a5 m k5)) ∧ (W.cell? ⟨w3.heap.size, 0, none⟩ = some (.int .i64 NG) ∧ W.cell? ⟨w3.heap.size, 1, none⟩ = some (.slice a3 m k3))) := fun W hb => ⟨⟨by rw [hb.cell (cell_lt f0)]; exact f0, by rw [hb.cell (cell_lt f1)]; exact f1⟩, HC4.out W (below_chain hb5 (below_chain hb6 hb))⟩
  have HF6 : Hid (∀ W, Below W6.heap.size W6 W → EdAt W (.slice a5 m k5) m ff sf) := fun W hb => (hv5.later hb6).later hb
  have HG6 : Hid (∀ W, Below W6.heap.size W6 W → EdAt W (.slice a3 m k3) m fg sg) := fun W hb => HG4.out W (below_chain hb5 (below_chain hb6 hb))
  have HB6 := Hid.mk' (below_chain HB4.out (below_chain hb5 hb6))
  have HW6 := Hid.mk' hW6
  clear hW6 hb6 hv5 hb5 f0 f1 HFR HC4 HG4 HW4
  obtain ⟨⟨f0, f1⟩, ⟨c0, c1⟩⟩ := HC6.out W6 (Below.refl _ _)
  go_upto_region 10 with fail
  rw [← HW6.out]
  go_wp2_with fail
  refine (HEG.out _ _ HB6.out (HG6.out _ (Below.refl _ _))).mono ?_
  rintro e w7 ⟨g7, rfl, hF7⟩
  have HX7 := Hid.mk' hF7.below
  have HN7 := Hid.mk' hF7.nums
  have HB7 := Hid.mk' (below_chain HB6.out hF7.below)
  clear hF7 f0 f1 c0 c1 HW6 HEG
  obtain ⟨⟨f0, f1⟩, ⟨c0, c1⟩⟩ := HC6.out w7 HX7.out
  go_wp2_with fail
  refine (HSF.out _ _ HB7.out (HF6.out _ HX7.out)).mono ?_
  rintro e w8 ⟨g8, rfl, hF8⟩
  have HX8 := Hid.mk' (below_chain HX7.out hF8.below)
  have HN8 := Hid.mk' hF8.nums
  have HM8 := Hid.mk' (HN7.out.later hF8.below)
  have HB8 := Hid.mk' (below_chain HB7.out hF8.below)
  clear hF8 f0 f1 c0 c1 HSF HN7
  obtain ⟨⟨f0, f1⟩, ⟨c0, c1⟩⟩ := HC6.out w8 HX8.out
  go_wp2_with fail
  refine (HSG.out _ _ HB8.out (HG6.out _ HX8.out)).mono ?_
  rintro e w9 ⟨g9, rfl, hF9⟩
  have HX9 := Hid.mk' (below_chain HX8.out hF9.below)
  have HN9 := Hid.mk' hF9.nums
  have HM9 := Hid.mk' (HM8.out.later hF9.below)
  have HL9 := Hid.mk' (HN8.out.later hF9.below)
  have HB9 := Hid.mk' (below_chain HB8.out hF9.below)
  clear hF9 f0 f1 c0 c1 HSG HM8 HN8
  obtain ⟨⟨f0, f1⟩, ⟨c0, c1⟩⟩ := HC6.out w9 HX9.out
  go_wp2_with fail
  refine (HEF.out _ _ HB9.out (HF6.out _ HX9.out)).mono ?_
  rintro e w10 ⟨g10, rfl, hF10⟩
  have HND := Hid.mk' hF10.nums
  have HNA := Hid.mk' (HM9.out.later hF10.below)
  have HNB := Hid.mk' (HL9.out.later hF10.below)
  have HNC := Hid.mk' (HN9.out.later hF10.below)
  have HB10 := Hid.mk' (below_chain HB9.out hF10.below)
  clear hF10 f0 f1 c0 c1 HEF HM9 HL9 HN9 HC6 HF6 HG6
  have hmm : (((m : Int) + 1) != ((m : Int) + 1)) = false := by simp
  go_wp2_with fail
  go_loopw [17] (fun kv wr => ∃ k : Nat, k ≤ m + 1 ∧ kv = .int .i64 k ∧ Hid (Below w10.heap.size w10 wr)) (fun kv _ => m + 1 - (intOf kv).toNat)
  case atStart => exact ⟨0, Nat.zero_le _, rfl, Below.refl _ _⟩
  case round =>
    obtain ⟨k, hk, rfl, HB⟩ := hrel
    have hk0 : (0 : Int) ≤ (k : Int) := by omega
    rcases Nat.lt_or_ge k (m + 1) with h1 | h1
    · have hkI : (k : Int) < (m : Int) + 1 := by omega
      have cA : wr.cell? ⟨g7, k, none⟩ = some (.int .i64 ((A k : Nat) : Int)) := nums_cell (HNA.out.later HB.out) h1
      have cB : wr.cell? ⟨g8, k, none⟩ = some (.int .i64 ((B k : Nat) : Int)) := nums_cell (HNB.out.later HB.out) h1
      have cC : wr.cell? ⟨g9, k, none⟩ = some (.int .i64 ((C k : Nat) : Int)) := nums_cell (HNC.out.later HB.out) h1
      have cD : wr.cell? ⟨g10, k, none⟩ = some (.int .i64 ((D k : Nat) : Int)) := nums_cell (HND.out.later HB.out) h1
      obtain ⟨x1, x2, x3, x4⟩ := HK.out k h1
      rw [x1, show ((2 * A k : Nat) : Int) = 2 * (A k : Int) by omega] at cB
      rw [x2, show ((2 * D k : Nat) : Int) = 2 * (D k : Int) by omega] at cC
      clear x1 x2
      generalize A k = X at *
      generalize D k = Y at *
      have y1 : (X : Int) ≤ 1073741824 := by omega
      have y2 : (Y : Int) ≤ 1073741824 := by omega
      have y3 : (0 : Int) ≤ (X : Int) := by omega
      have y4 : (0 : Int) ≤ (Y : Int) := by omega
      have z1 : (2 * (X : Int) != 2 * (X : Int)) = false := by simp
      have z2 : (2 * (Y : Int) != 2 * (Y : Int)) = false := by simp
      have z3 : IntKind.i64.wrap (2 * (X : Int)) = 2 * (X : Int) := by have := i64_low (2 * X) (by omega); rw [Int.natCast_mul] at this; exact this
      have z4 : IntKind.i64.wrap (2 * (Y : Int)) = 2 * (Y : Int) := by have := i64_low (2 * Y) (by omega); rw [Int.natCast_mul] at this; exact this
      clear x3 x4
      go_wp2_with fail
      go_quiet (fail)
      have HBQ := Hid.mk' (below_drewN HB.out nq)
      generalize wr.drewN nq = Wq at *
      clear cA cB cC cD
      go_wp2_with fail
      exact ⟨⟨k + 1, h1, by go_num, HBQ⟩, by simp [intOf]; omega⟩
    · obtain rfl : k = m + 1 := by omega
      have hkI : ¬ (((m + 1 : Nat) : Int) < (m : Int) + 1) := by omega
      go_wp2_with fail
      go_ret
      exact ⟨rfl, below_chain HB10.out HB.out⟩

theorem IsingDuality_all (a : Nat → Addr) (h l : Int) (w : World) (hE : Errs w a) :
    Calls Tryd.prog 3 #[.int .i64 h, .int .i64 l] w fun e w' => e = .returned (.bool true) ∧ Below w.heap.size w w' := by
  by_cases hg : isGr h l
  · have hg' := hg
    obtain ⟨h1, h2, h3, h4⟩ := hg'
    obtain ⟨H, rfl⟩ : ∃ H : Nat, h = H := ⟨h.toNat, by omega⟩
    obtain ⟨L, rfl⟩ : ∃ L : Nat, l = L := ⟨l.toNat, by omega⟩
    by_cases hs : syE ((H * L : Nat) : Int) (grE' H L).length (fsE (grE' H L)) (snE (grE' H L)) = 0
    · exact IsingDuality_ok a H L w hE hg hs
    · refine IsingDuality_no a H L w hE fun W hb => ?_
      refine (Grid_yes a H L W (hE.below hb) hg).mono ?_
      rintro e w' ⟨u, rfl, hu, hb'⟩
      unfold GrRes at hu
      rw [if_neg hs] at hu
      rw [hu]
      exact ⟨rfl, hb'⟩
  · exact IsingDuality_no a h l w hE fun W hb => Grid_no a h l W (hE.below hb) hg
end Go.Proofs.YtoghnbcjkgookabDoor
