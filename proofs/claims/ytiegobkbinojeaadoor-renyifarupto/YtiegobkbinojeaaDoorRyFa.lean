/- The program's Far. -/
import Derived.Test.YtiegobkbinojeaaDoorRyFr
namespace Go.Proofs.YtiegobkbinojeaaDoor
open Go.RowKit

/-- What is wrong with a family and weights. -/
def farErr (M : Int) (R : Nat) (ns : Nat → Nat) (zs : Nat → Nat → Int) (n : Nat) (z : Nat → Int) : Nat :=
  if famErr M R ns zs ≠ 0 then famErr M R ns zs else if weightsErr z n ≠ 0 then weightsErr z n else if n ≠ ns 0 then 3 else 0
set_option maxRecDepth 100000 in
set_option maxHeartbeats 8000000 in
theorem Far_bad (a : Nat → Addr) (M : Int) (v wv : Value) (R n : Nat) (vs : Nat → Value) (ns : Nat → Nat) (zs : Nat → Nat → Int) (z : Nat → Int) (w : World) (hE : Errs w a) (h : TabAt w v R vs ns zs) (hw : NumsAt w wv n z) (hR : R ≤ 1000) (hn : n ≤ 100000) (hns : ∀ i, i < R → ns i ≤ 100000) (hbad : farErr M R ns zs n z ≠ 0) :
    Calls Tryd.prog 19 #[.agg #[.int .i64 M, v], wv] w fun e w' => e = .returned (.tuple #[.agg #[.int .i64 0, .int .i64 0], errV a (farErr M R ns zs n z)]) ∧ Below w.heap.size w w' := by
  obtain ⟨ad, cap, rfl⟩ := h.form
  obtain ⟨wa, wc, rfl⟩ := hw.form
  obtain ⟨w1, hw1⟩ : ∃ w1, w1 = (w.alloc (.cells #[.int .i64 M, .slice ad R cap] 32)).alloc (.cells #[.int .i64 0, .int .i64 0] 43) := ⟨_, rfl⟩
  have hb1 : Below w.heap.size w w1 := by rw [hw1]; exact ((Below.refl _ _).alloc (Nat.le_refl _) _).alloc (by simp) _
  have hc0 : w1.cell? ⟨w.heap.size, 0, none⟩ = some (.int .i64 M) := by rw [hw1]; go_simp
  have hc1 : w1.cell? ⟨w.heap.size, 1, none⟩ = some (.slice ad R cap) := by rw [hw1]; go_simp
  have hd0 : w1.cell? ⟨w.heap.size + 1, 0, none⟩ = some (.int .i64 0) := by rw [hw1]; go_simp
  have hd1 : w1.cell? ⟨w.heap.size + 1, 1, none⟩ = some (.int .i64 0) := by rw [hw1]; go_simp
  have hfz : ∀ j, w1.frozen? ⟨w.heap.size + 1, j, none⟩ = false := fun j => by
    have h := World.frozen?_alloc_new (w.alloc (.cells #[.int .i64 M, .slice ad R cap] 32)) #[.int .i64 0, .int .i64 0] 43 j
    rw [World.size_alloc] at h
    rw [hw1]; exact h
  have HC : Hid (∀ W, Below w1.heap.size w1 W → W.cell? ⟨w.heap.size, 0, none⟩ = some (.int .i64 M) ∧ W.cell? ⟨w.heap.size, 1, none⟩ = some (.slice ad R cap)) := fun W hb => ⟨by rw [hb.cell (cell_lt hc0)]; exact hc0, by rw [hb.cell (cell_lt hc1)]; exact hc1⟩
  have HD : Hid (∀ W, Below w1.heap.size w1 W → (W.cell? ⟨w.heap.size + 1, 0, none⟩ = some (.int .i64 0) ∧ W.cell? ⟨w.heap.size + 1, 1, none⟩ = some (.int .i64 0)) ∧ W.frozen? ⟨w.heap.size + 1, 0, none⟩ = false ∧ W.frozen? ⟨w.heap.size + 1, 1, none⟩ = false) := fun W hb => ⟨⟨by rw [hb.cell (cell_lt hd0)]; exact hd0, by rw [hb.cell (cell_lt hd1)]; exact hd1⟩, by rw [hb.frozen (cell_lt hd0)]; exact hfz 0, by rw [hb.frozen (cell_lt hd1)]; exact hfz 1⟩
  have HB1 := Hid.mk' hb1
  have HW1 := Hid.mk' hw1
  have HT := Hid.mk' (fun (W : World) (hb : Below w1.heap.size w1 W) => (h.later hb1).later hb)
  have HEE := Hid.mk' (fun (W : World) (hb : Below w1.heap.size w1 W) => (hE.below hb1).below hb)
  have HV := Valid_fam a M _ R vs ns zs w1 (hE.below hb1) (h.later hb1) hR hns
  have HVW := Hid.mk' (fun (W : World) (hb : Below w1.heap.size w1 W) => Valid_weights a _ n z W (HEE.out W hb) ((hw.later hb1).later hb) (by omega))
  have HST : Hid (∀ W, Below w1.heap.size w1 W → Below w.heap.size w ((W.setCell ⟨w.heap.size + 1, 0, none⟩ (.int .i64 0)).setCell ⟨w.heap.size + 1, 1, none⟩ (.int .i64 0))) := fun W hb => (((hb1.trans (hb.mono hb1.size))).setCell (by simp) _).setCell (by simp) _
  have HGL : Hid (_ < w.heap.size) := cell_lt hE.c2
  clear h hw hE hb1 hw1 hd0 hd1 hfz hns
  by_cases h1 : famErr M R ns zs ≠ 0
  · have HFE : Hid (farErr M R ns zs n z = famErr M R ns zs) := by show _ = _; unfold farErr; rw [if_pos h1]
    rw [HFE.out]
    rw [errV_pos a h1] at HV ⊢
    generalize famErr M R ns zs = q at *
    clear h1 hbad
    go_enter Tryd.func19, Tryd.ntmps19
    go_upto_region 1 with fail
    rw [← HW1.out]
    go_wp2_with fail
    refine HV.mono ?_
    clear HV
    rintro e w2 ⟨rfl, hb2⟩
    obtain ⟨⟨x0, x1⟩, x2, x3⟩ := HD.out w2 hb2
    have HG := Hid.mk' (put_twoR (.int .i64 0) (.int .i64 0) x0 x1)
    have HBE := Hid.mk' (HST.out w2 hb2)
    obtain ⟨q0, _, _⟩ := HG.out
    clear hb2 hc0 hc1
    go_wp2_with fail
    generalize (w2.setCell ⟨w.heap.size + 1, 0, none⟩ (.int .i64 0)).setCell ⟨w.heap.size + 1, 1, none⟩ (.int .i64 0) = W9 at *
    exact bodyPost_ret (v := .tuple #[.agg #[.int .i64 0, .int .i64 0], .iface 149 (.pointer (some (a (q - 1))))]) (by simp [results, Tryd.results19, go_sem, HG.out.2.1, HG.out.2.2]) rfl ⟨rfl, HBE.out⟩
  · have h1' : famErr M R ns zs = 0 := by omega
    have hok := famErr_ok h1'
    have hpos := hok.pos
    rw [h1', errV_zero] at HV
    by_cases h2 : weightsErr z n ≠ 0
    · have HFE : Hid (farErr M R ns zs n z = weightsErr z n) := by show _ = _; unfold farErr; rw [if_neg h1, if_pos h2]
      rw [HFE.out]
      rw [errV_pos a h2] at HVW ⊢
      generalize weightsErr z n = q at *
      clear h1 h1' h2 hbad hok
      go_enter Tryd.func19, Tryd.ntmps19
      go_upto_region 1 with fail
      rw [← HW1.out]
      go_wp2_with fail
      refine HV.mono ?_
      clear HV
      rintro e w2 ⟨rfl, hb2⟩
      have HB2 := Hid.mk' hb2
      clear hb2 hc0 hc1
      go_wp2_with fail
      refine (HVW.out w2 HB2.out).mono ?_
      rintro e w3 ⟨rfl, hw3⟩
      rw [hw3]
      clear hw3
      obtain ⟨⟨x0, x1⟩, x2, x3⟩ := HD.out w2 HB2.out
      have HG := Hid.mk' (put_twoR (.int .i64 0) (.int .i64 0) x0 x1)
      have HBE := Hid.mk' (HST.out w2 HB2.out)
      obtain ⟨q0, _, _⟩ := HG.out
      go_wp2_with fail
      generalize (w2.setCell ⟨w.heap.size + 1, 0, none⟩ (.int .i64 0)).setCell ⟨w.heap.size + 1, 1, none⟩ (.int .i64 0) = W9 at *
      exact bodyPost_ret (v := .tuple #[.agg #[.int .i64 0, .int .i64 0], .iface 149 (.pointer (some (a (q - 1))))]) (by simp [results, Tryd.results19, go_sem, HG.out.2.1, HG.out.2.2]) rfl ⟨rfl, HBE.out⟩
    · have h2' : weightsErr z n = 0 := by omega
      have h3 : n ≠ ns 0 := fun e => hbad (by unfold farErr; rw [if_neg h1, if_neg h2, if_neg (by omega)])
      have HFE : Hid (farErr M R ns zs n z = 3) := by show _ = _; unfold farErr; rw [if_neg h1, if_neg h2, if_pos h3]
      rw [HFE.out]
      have HEV : Hid (errV a 3 = .iface 149 (.pointer (some (a 2)))) := rfl
      rw [h2', errV_zero] at HVW
      have HRZ : Hid (∀ W, Below w1.heap.size w1 W → ∃ b o zad zcap, ad = some ⟨b, o, none⟩ ∧ W.cell? ⟨b, o, none⟩ = some (.slice zad (ns 0) zcap)) := fun W hb => by
        obtain ⟨b, o, g1, g2, g3⟩ := (HT.out W hb).rowR hpos
        obtain ⟨zad, zcap, g4⟩ := g3.form
        rw [g4, Nat.add_zero] at g2
        exact ⟨b, o, zad, zcap, g1, g2⟩
      have hposI : (0 : Int) < (R : Int) := by omega
      have k1 : ((n : Int) != (ns 0 : Int)) = true := by simp; omega
      generalize ns 0 = m0 at *
      clear h1 h1' h2 h2' h3 hbad hok
      go_enter Tryd.func19, Tryd.ntmps19
      go_upto_region 1 with fail
      rw [← HW1.out]
      go_wp2_with fail
      refine HV.mono ?_
      clear HV
      rintro e w2 ⟨rfl, hb2⟩
      have HB2 := Hid.mk' hb2
      clear hb2 hc0 hc1
      go_wp2_with fail
      refine (HVW.out w2 HB2.out).mono ?_
      rintro e w3 ⟨rfl, hw3⟩
      rw [hw3]
      clear hw3
      have hc1 := (HC.out w2 HB2.out).2
      obtain ⟨b, o, zad, zcap, rfl, hz⟩ := HRZ.out w2 HB2.out
      obtain ⟨⟨x0, x1⟩, x2, x3⟩ := HD.out w2 HB2.out
      have er := (HEE.out w2 HB2.out).c2
      have hgl := HGL.out
      have er2 := (World.cell?_setCell_other w2 ⟨w.heap.size + 1, 0, none⟩ _ (.int .i64 0) (fun e => absurd (congrArg Addr.block e) (Nat.ne_of_gt (Nat.lt_succ_of_lt hgl)))).trans er
      go_wp2_with fail
      go_region
      all_goals
        have HG := Hid.mk' (put_twoR (.int .i64 0) (.int .i64 0) x0 x1)
        have HBE := Hid.mk' (HST.out w2 HB2.out).drew
        go_wp2_with fail
        have G1 := Hid.mk' HG.out.2.1
        have G2 := Hid.mk' HG.out.2.2
        clear HG x0 x1 x2 x3 er2 er hc1 hz
        generalize (w2.setCell ⟨w.heap.size + 1, 0, none⟩ (.int .i64 0)).setCell ⟨w.heap.size + 1, 1, none⟩ (.int .i64 0) = W9 at *
        exact bodyPost_ret (v := .tuple #[.agg #[.int .i64 0, .int .i64 0], .iface 149 (.pointer (some (a 2)))]) (by simp [results, Tryd.results19, go_sem, G1.out, G2.out]) rfl ⟨by rw [HEV.out], HBE.out⟩

set_option maxRecDepth 100000 in
set_option maxHeartbeats 8000000 in
theorem Far_ok (a : Nat → Addr) (m : Nat) (v wv : Value) (R n S : Nat) (vs : Nat → Value) (ns : Nat → Nat) (zs : Nat → Nat → Int) (z : Nat → Int) (w : World) (hE : Errs w a) (h : TabAt w v R vs ns zs) (hw : NumsAt w wv n z) (hns : ∀ i, i < R → ns i ≤ 100000) (he : famErr (m : Int) R ns zs = 0) (h0 : weightsErr z n = 0) (hlen : n = ns 0) (hS : sumN z n = (S : Int)) :
    Calls Tryd.prog 19 #[.agg #[.int .i64 (m : Int), v], wv] w fun e w' => e = .returned (.tuple #[gueV (apA (m : Int) (S : Int) n zs z R) (2 * R * m * S), .nilIface]) ∧ Below w.heap.size w w' := by
  have hok := famErr_ok he
  obtain ⟨h16, hokw⟩ := weightsErr_ok h0
  have hn0 := hokw.posN
  obtain ⟨ad, cap, rfl⟩ := h.form
  obtain ⟨wb, wo, wc, rfl, hrow⟩ := nums_row hw hn0
  obtain ⟨w1, hw1⟩ : ∃ w1, w1 = (w.alloc (.cells #[.int .i64 (m : Int), .slice ad R cap] 32)).alloc (.cells #[.int .i64 0, .int .i64 0] 43) := ⟨_, rfl⟩
  have hb1 : Below w.heap.size w w1 := by rw [hw1]; exact ((Below.refl _ _).alloc (Nat.le_refl _) _).alloc (by simp) _
  have hc0 : w1.cell? ⟨w.heap.size, 0, none⟩ = some (.int .i64 (m : Int)) := by rw [hw1]; go_simp
  have hc1 : w1.cell? ⟨w.heap.size, 1, none⟩ = some (.slice ad R cap) := by rw [hw1]; go_simp
  have hd0 : w1.cell? ⟨w.heap.size + 1, 0, none⟩ = some (.int .i64 0) := by rw [hw1]; go_simp
  have hd1 : w1.cell? ⟨w.heap.size + 1, 1, none⟩ = some (.int .i64 0) := by rw [hw1]; go_simp
  have hfz : ∀ j, w1.frozen? ⟨w.heap.size + 1, j, none⟩ = false := fun j => by
    have h := World.frozen?_alloc_new (w.alloc (.cells #[.int .i64 (m : Int), .slice ad R cap] 32)) #[.int .i64 0, .int .i64 0] 43 j
    rw [World.size_alloc] at h
    rw [hw1]; exact h
  have HC : Hid (∀ W, Below w1.heap.size w1 W → W.cell? ⟨w.heap.size, 0, none⟩ = some (.int .i64 (m : Int)) ∧ W.cell? ⟨w.heap.size, 1, none⟩ = some (.slice ad R cap)) := fun W hb => ⟨by rw [hb.cell (cell_lt hc0)]; exact hc0, by rw [hb.cell (cell_lt hc1)]; exact hc1⟩
  have HD : Hid (∀ W, Below w1.heap.size w1 W → (W.cell? ⟨w.heap.size + 1, 0, none⟩ = some (.int .i64 0) ∧ W.cell? ⟨w.heap.size + 1, 1, none⟩ = some (.int .i64 0)) ∧ W.frozen? ⟨w.heap.size + 1, 0, none⟩ = false ∧ W.frozen? ⟨w.heap.size + 1, 1, none⟩ = false) := fun W hb => ⟨⟨by rw [hb.cell (cell_lt hd0)]; exact hd0, by rw [hb.cell (cell_lt hd1)]; exact hd1⟩, by rw [hb.frozen (cell_lt hd0)]; exact hfz 0, by rw [hb.frozen (cell_lt hd1)]; exact hfz 1⟩
  have HB1 := Hid.mk' hb1
  have HW1 := Hid.mk' hw1
  have HT := Hid.mk' (fun (W : World) (hb : Below w1.heap.size w1 W) => (h.later hb1).later hb)
  have HRW : Hid (∀ W, Below w1.heap.size w1 W → RowAt W wb wo n z) := fun W hb => (hrow.later hb1).later hb
  have hS0 : 1 ≤ S := by have := hokw.pos; omega
  have hS4 : S ≤ 4096 := by have := hokw.le; omega
  have hpos := hok.pos
  have hR64 := hok.le
  have hm1 : 1 ≤ m := by have := hok.m1; omega
  have hm16 : m ≤ 16 := by have := hok.m16; omega
  have HV := Valid_fam a (m : Int) _ R vs ns zs w1 (hE.below hb1) (h.later hb1) (by omega) hns
  rw [he, errV_zero] at HV
  have HVW := Hid.mk' (fun (W : World) (hb : Below w1.heap.size w1 W) => Valid_weights a _ n z W ((hE.below hb1).below hb) ((hw.later hb1).later hb) (by omega))
  rw [h0, errV_zero] at HVW
  have HTO := Hid.mk' (fun (W : World) (hb : Below w1.heap.size w1 W) => by
    have h9 := total_some wb wo wc n z W (HRW.out W hb) (fun k hk => by have := hokw.part hk; omega) (fun k hk => by have := hokw.lt hk; omega) (by omega)
    rw [hS] at h9
    exact h9)
  have HLD : Hid (∀ i, i < R → ∀ W, Below w1.heap.size w1 W → Calls Tryd.prog 43 #[vs i, .slice (some ⟨wb, wo, none⟩) n wc, .int .i64 (m : Int)] W fun e w' => ∃ g, e = .returned (.slice (some ⟨g, 0, none⟩) m m) ∧ RowAt w' g 0 m (ldF (zs i) z n) ∧ Below W.heap.size W w') := fun i hi W hb => by
    obtain ⟨b, o, g1, g2, g3⟩ := (HT.out W hb).rowR hi
    rw [hok.len i hi, ← hlen] at g3
    exact loads_any _ _ n m (zs i) z W g3 ((hw.later hb1).later hb) h16 hm1 hm16 (fun i hi => hokw.lt hi) (fun k hk => (hokw.part hk).2) (fun k hk => hok.num i hi k (by omega))
  have hLB : ∀ i v, 0 ≤ ldF (zs i) z n v ∧ ldF (zs i) z n v ≤ 4096 := fun i v => by
    have h1 := ldF_part (zr := zs i) hokw.nn v n (Nat.le_refl _)
    have := hokw.le
    omega
  have HLB := Hid.mk' hLB
  have HAB := Hid.mk' (fun i => apA_le (M := (m : Int)) (S := (S : Int)) (n := n) (zs := zs) (z := z) hLB (by omega) (by omega) (by omega) (by omega) i)
  have HRB := Hid.mk' (fun i v => apR_le (M := (m : Int)) (S := (S : Int)) (hLB i) (by omega) (by omega) (by omega) (by omega) v)
  have HON := Hid.mk' (fun i v => ap_one (f := ldF (zs i) z n v) (S := (S : Int)) (M := (m : Int)) (hLB i v).1 (hLB i v).2 (by omega) (by omega) (by omega) (by omega))
  have hZ : ∀ W, Below w1.heap.size w1 W → ∃ b o, ad = some ⟨b, o, none⟩ ∧ ∀ i, i < R → ∃ za zc, W.cell? ⟨b, o + i, none⟩ = some (.slice za n zc) ∧ vs i = .slice za n zc := fun W hb => by
    obtain ⟨b, o, g1, g2, g3⟩ := (HT.out W hb).rowR hpos
    refine ⟨b, o, g1, fun i hi => ?_⟩
    obtain ⟨b', o', f1, f2, f3⟩ := (HT.out W hb).rowR hi
    obtain ⟨rfl, rfl⟩ : b = b' ∧ o = o' := by rw [g1] at f1; simpa using f1
    rw [hok.len i hi, ← hlen] at f3
    obtain ⟨za, zc, f4⟩ := f3.form
    rw [f4] at f2
    exact ⟨za, zc, f2, f4⟩
  obtain ⟨b, o, rfl, _⟩ := hZ w1 (Below.refl _ _)
  have HZ : Hid (∀ W, Below w1.heap.size w1 W → ∀ i, i < R → ∃ za zc, W.cell? ⟨b, o + i, none⟩ = some (.slice za n zc) ∧ vs i = .slice za n zc) := fun W hb => by
    obtain ⟨b', o', g1, g2⟩ := hZ W hb
    obtain ⟨rfl, rfl⟩ : b = b' ∧ o = o' := by simpa using g1
    exact g2
  have HP1 : Hid (0 ≤ 2 * (R : Int) * (m : Int) ∧ 2 * (R : Int) * (m : Int) ≤ 2048) := ⟨Int.mul_nonneg (by omega) (by omega), Int.mul_le_mul (c := 128) (d := 16) (by omega) (by omega) (by omega) (by omega)⟩
  have HP2 : Hid (0 ≤ 2 * (R : Int) * (m : Int) * (S : Int) ∧ 2 * (R : Int) * (m : Int) * (S : Int) ≤ 8388608) := ⟨Int.mul_nonneg HP1.out.1 (by omega), Int.mul_le_mul (c := 2048) (d := 4096) HP1.out.2 (by omega) (by omega) (by omega)⟩
  have HPN : Hid (((2 * R * m * S : Nat) : Int) = 2 * (R : Int) * (m : Int) * (S : Int)) := by show _ = _; simp [Int.natCast_mul]
  have HLO : Hid (∀ (W : World) (T : Nat), T ≤ 71680000 → Calls Tryd.prog 45 #[.int .i64 (T : Int), .int .i64 (2 * (R : Int) * (m : Int) * (S : Int))] W fun e w' => e = .returned (gueV T (2 * R * m * S)) ∧ Below W.heap.size W w') := fun W T hT => by
    have h9 := lowest_any (T : Int) (2 * R * m * S) W (by omega) (by omega) (by have h1 : 0 < 2 * R * m * S := Nat.mul_pos (Nat.mul_pos (by omega) (by omega)) (by omega); omega) (by have := HPN.out; have := HP2.out; omega) (Nat.gcd T (2 * R * m * S)) rfl
    rw [HPN.out] at h9
    exact h9
  have HEND : Hid (∀ W, Below w1.heap.size w1 W → Below w.heap.size w W) := fun W hb => hb1.trans (hb.mono hb1.size)
  have HST : Hid (∀ W, Below w1.heap.size w1 W → ∀ x y, Below w.heap.size w ((W.setCell ⟨w.heap.size + 1, 0, none⟩ x).setCell ⟨w.heap.size + 1, 1, none⟩ y)) := fun W hb x y => (((hb1.trans (hb.mono hb1.size))).setCell (by simp) _).setCell (by simp) _
  have hposI : (0 : Int) < (R : Int) := by omega
  have k1 : ((n : Int) != (n : Int)) = false := by simp
  have HA0 : Hid (apA (m : Int) (S : Int) n zs z 0 = 0) := rfl
  have HAS : Hid (∀ i, apA (m : Int) (S : Int) n zs z (i + 1) = apA (m : Int) (S : Int) n zs z i + apR (m : Int) (S : Int) (ldF (zs i) z n) m) := fun i => rfl
  have HRS : Hid (∀ i v, apR (m : Int) (S : Int) (ldF (zs i) z n) (v + 1) = apR (m : Int) (S : Int) (ldF (zs i) z n) v + (ldF (zs i) z n v * (m : Int) - (S : Int)).natAbs) := fun i v => rfl
  have HR0 : Hid (∀ i, apR (m : Int) (S : Int) (ldF (zs i) z n) 0 = 0) := fun i => rfl
  clear h hw hE hb1 hw1 hd0 hd1 hfz hns he h0 hlen hS hok hokw hrow hLB hZ
  go_enter Tryd.func19, Tryd.ntmps19
  go_upto_region 1 with fail
  rw [← HW1.out]
  go_wp2_with fail
  refine HV.mono ?_
  clear HV
  rintro e w2 ⟨rfl, hb2⟩
  have HB2 := Hid.mk' hb2
  clear hb2 hc0 hc1
  go_wp2_with fail
  refine (HVW.out w2 HB2.out).mono ?_
  rintro e w3 ⟨rfl, hw3⟩
  rw [hw3]
  clear hw3
  have hc1 := (HC.out w2 HB2.out).2
  obtain ⟨za, zc, hz, _⟩ := HZ.out w2 HB2.out 0 hpos
  rw [Nat.add_zero] at hz
  go_wp2_with fail
  refine (HTO.out w2 HB2.out).mono ?_
  rintro e w3 ⟨rfl, hw3⟩
  rw [hw3]
  clear hw3 hz
  go_wp2_with fail
  clear hc1
  go_loopw [9, 41] (fun s t wr => ∃ i : Nat, i ≤ R ∧ s = .int .i64 (apA (m : Int) (S : Int) n zs z i : Nat) ∧ t = .int .i64 (i : Int) ∧ Hid (Below w1.heap.size w1 wr)) (fun _ t _ => R - (intOf t).toNat)
  case atStart => exact ⟨0, Nat.zero_le _, by rw [HA0.out]; rfl, rfl, HB2.out⟩
  case round =>
    clear HB2
    obtain ⟨i, hi, rfl, rfl, HB⟩ := hrel
    have hab := HAB.out i
    rcases Nat.lt_or_ge i R with h1 | h1
    · have hiI : (i : Int) < (R : Int) := by omega
      have hi0 : (0 : Int) ≤ (i : Int) := by omega
      obtain ⟨za, zc, hz, hve⟩ := HZ.out wr HB.out i h1
      have hld := HLD.out i h1 wr HB.out
      rw [hve] at hld
      have hc0 := (HC.out wr HB.out).1
      have HASi := Hid.mk' (HAS.out i)
      have HRSi := Hid.mk' (HRS.out i)
      have HR0i := Hid.mk' (HR0.out i)
      have HONi := Hid.mk' (HON.out i)
      have HRBi := Hid.mk' (HRB.out i)
      clear hve
      generalize apA (m : Int) (S : Int) n zs z i = A at *
      go_wp2_with fail
      refine hld.mono ?_
      clear hld
      rintro e w5 ⟨g, rfl, hrow, hb5⟩
      have HROW := Hid.mk' hrow
      have HB5 := Hid.mk' (below_chain HB.out hb5)
      clear hrow hb5 hz hc0
      have hc0 := (HC.out w5 HB5.out).1
      go_wp2_with fail
      go_loopw [9, 51] (fun s t wx => ∃ u : Nat, u ≤ m ∧ s = .int .i64 ((A + apR (m : Int) (S : Int) (ldF (zs i) z n) u : Nat) : Int) ∧ t = .int .i64 (u : Int) ∧ wx = w5) (fun _ t _ => m - (intOf t).toNat)
      case atStart => exact ⟨0, Nat.zero_le _, by rw [HR0i.out, Nat.add_zero], rfl, rfl⟩
      case round =>
        obtain ⟨u, hu, rfl, rfl, hwx⟩ := hrel
        rw [hwx]
        clear hwx
        have hu0 : (0 : Int) ≤ (u : Int) := by omega
        rcases Nat.lt_or_ge u m with h2 | h2
        · have huI : (u : Int) < (m : Int) := by omega
          have hcx := HROW.out u h2
          rw [Nat.zero_add] at hcx
          have HN := Hid.mk' (HRSi.out u)
          have hon := HONi.out u
          have hrb := HRBi.out u
          have hsz := size_any (ldF (zs i) z n u * (m : Int) - (S : Int)) w5 (by omega) (by omega)
          generalize apR (m : Int) (S : Int) (ldF (zs i) z n) u = q at *
          generalize ldF (zs i) z n u = x at *
          go_wp2_with fail
          refine hsz.mono ?_
          clear hsz
          rintro e w6 ⟨rfl, hw6⟩
          rw [hw6]
          clear hw6
          have hon2 := hon.2.2
          generalize (x * (m : Int) - (S : Int)).natAbs = y at *
          go_wp2_with fail
          exact ⟨⟨u + 1, h2, by rw [HN.out, Int.natCast_add, Int.natCast_add, Int.add_assoc], by go_num, trivial⟩, by simp [intOf]; omega⟩
        · obtain rfl : u = m := by omega
          have huI : ¬ (u : Int) < (u : Int) := by omega
          go_wp2_with fail
          exact ⟨⟨i + 1, h1, by rw [HASi.out], by go_num, HB5⟩, by simp [intOf]; omega⟩
    · obtain rfl : i = R := by omega
      have hiI : ¬ (i : Int) < (i : Int) := by omega
      have hL := HLO.out wr (apA (m : Int) (S : Int) n zs z i) (by omega)
      have HFV : Hid (gueV (apA (m : Int) (S : Int) n zs z i) (2 * i * m * S) = .agg #[.int .i64 ((apA (m : Int) (S : Int) n zs z i / Nat.gcd (apA (m : Int) (S : Int) n zs z i) (2 * i * m * S) : Nat) : Int), .int .i64 ((2 * i * m * S / Nat.gcd (apA (m : Int) (S : Int) n zs z i) (2 * i * m * S) : Nat) : Int)]) := rfl
      rw [HFV.out] at hL
      have hp1 := HP1.out
      have hp2 := HP2.out
      have hc0 := (HC.out wr HB.out).1
      have hc1 := (HC.out wr HB.out).2
      generalize 2 * i * m * S / Nat.gcd (apA (m : Int) (S : Int) n zs z i) (2 * i * m * S) = q2 at *
      generalize apA (m : Int) (S : Int) n zs z i / Nat.gcd (apA (m : Int) (S : Int) n zs z i) (2 * i * m * S) = q1 at *
      obtain ⟨T, hT⟩ : ∃ T, T = apA (m : Int) (S : Int) n zs z i := ⟨_, rfl⟩
      rw [← hT] at hL ⊢
      clear hT HLO HAB hab
      go_wp2_with fail
      refine hL.mono ?_
      clear hL
      rintro e w7 ⟨rfl, hb7⟩
      obtain ⟨⟨x0, x1⟩, x2, x3⟩ := HD.out w7 (below_chain HB.out hb7)
      have HG := Hid.mk' (put_twoR (.int .i64 (q1 : Int)) (.int .i64 (q2 : Int)) x0 x1)
      have HBE := Hid.mk' (HST.out w7 (below_chain HB.out hb7) (.int .i64 (q1 : Int)) (.int .i64 (q2 : Int)))
      obtain ⟨q0, _, _⟩ := HG.out
      clear hb7 hc0 hc1
      go_wp2_with fail
      generalize (w7.setCell ⟨w.heap.size + 1, 0, none⟩ (.int .i64 (q1 : Int))).setCell ⟨w.heap.size + 1, 1, none⟩ (.int .i64 (q2 : Int)) = W9 at *
      exact bodyPost_ret (v := .tuple #[.agg #[.int .i64 (q1 : Int), .int .i64 (q2 : Int)], .nilIface]) (by simp [results, Tryd.results19, go_sem, HG.out.2.1, HG.out.2.2]) rfl ⟨by rw [HFV.out], HBE.out⟩
end Go.Proofs.YtiegobkbinojeaaDoor
