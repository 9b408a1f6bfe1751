/- The document's SquaresOf: the sum of the squares of chances. -/
import Derived.Test.YtiegobkbinojeaaDoorRyNum
import Derived.Test.YtiegobkbinojeaaDoorRyGs
import Derived.Test.YtiegobkbinojeaaDoorIsBx
import Derived.Test.YtiegobkbinojeaaDoorRyUni
namespace Go.Proofs.YtiegobkbinojeaaDoor
open Go.RowKit

set_option maxRecDepth 100000 in
set_option maxHeartbeats 8000000 in
theorem SquaresOf_any (v : Value) (n S : Nat) (z : Nat → Int) (w : World) (h : NumsAt w v n z) (hS : sumN z n = (S : Int)) (hw0 : weightsErr z n = 0) :
    Calls Tryd.prog 25 #[v] w fun e w' => ∃ r, e = .returned r ∧ LR w' r (S * S) (sqNR z n : Int) ∧ Below w.heap.size w w' := by
  obtain ⟨h16, hok⟩ := weightsErr_ok hw0
  have hn0 := hok.posN
  have hS0 : 0 < S := by have := hok.pos; omega
  have hS4 : S ≤ 4096 := by have := hok.le; omega
  have hSS : 0 < S * S := Nat.mul_pos hS0 hS0
  have hSS2 : S * S ≤ 16777216 := Nat.mul_le_mul (show S ≤ 4096 from hS4) hS4
  obtain ⟨vb, vo, vc, rfl, hrow⟩ := nums_row h hn0
  have HRW : Hid (∀ W, Below w.heap.size w W → RowAt W vb vo n z) := fun W hb => hrow.later hb
  have HSU : Hid (∀ W, Below w.heap.size w W → Calls Tryd.prog 38 #[.slice (some ⟨vb, vo, none⟩) n vc] W fun e w' => e = .returned (.int .i64 (S : Int)) ∧ Below W.heap.size W w') := fun W hb => by
    have h9 := Sum_some vb vo vc n z W (hrow.later hb) (fun k hk => by have := hok.part hk; omega) (fun i hi => by have := hok.lt hi; omega) (by omega)
    rw [hS] at h9
    refine h9.mono ?_
    rintro e w' ⟨rfl, rfl⟩
    exact ⟨rfl, Below.refl _ _⟩
  have HLT := Hid.mk' (fun i (hi : i < n) => hok.lt hi)
  have HR0 : Hid (∀ W, Calls Tryd.prog 22 #[.int .i64 0, .int .i64 1] W fun e w' => ∃ r, e = .returned r ∧ LR w' r (S * S) 0 ∧ Below W.heap.size W w') := fun W => RatioOf_to 0 1 (S * S) 0 W (by decide) (by decide) (by decide) (by decide) hSS (by simp)
  have HRO0 : Hid (∀ (y : Int) W, 0 ≤ y → y ≤ 4096 → Calls Tryd.prog 22 #[.int .i64 y, .int .i64 (S : Int)] W fun e w' => ∃ r, e = .returned r ∧ LR w' r S y ∧ Below W.heap.size W w') := fun y W h1 h2 => RatioOf_to y S S y W (by omega) (by omega) hS0 (by omega) hS0 rfl
  have HTI0 : Hid (∀ (y : Int) W u u', 0 ≤ y → y ≤ 4096 → LR W u S y → LR W u' S y → Calls Tryd.prog 21 #[u, u'] W fun e w' => ∃ r, e = .returned r ∧ LR w' r (S * S) (y * y) ∧ Below W.heap.size W w') := fun y W u u' a1 a2 hu hu' => RTimes_to u u' S S (S * S) y y (y * y) W hu hu' ⟨hS0, by omega, by omega⟩ ⟨hS0, by omega, by omega⟩ hSS (by rw [Int.natCast_mul])
  have HPL0 : Hid (∀ (y1 y2 : Int) W u u', 0 ≤ y1 → y1 ≤ 268435456 → 0 ≤ y2 → y2 ≤ 268435456 → LR W u (S * S) y1 → LR W u' (S * S) y2 → Calls Tryd.prog 39 #[u, u'] W fun e w' => ∃ r, e = .returned r ∧ LR w' r (S * S) (y1 + y2) ∧ Below W.heap.size W w') := fun y1 y2 W u u' a1 a2 b1 b2 hu hu' => RPlus_to u u' (S * S) (S * S) (S * S) y1 y2 (y1 + y2) W hu hu' ⟨hSS, by omega, by omega⟩ ⟨hSS, by omega, by omega⟩ hSS (by generalize ((S * S : Nat) : Int) = Q; grind)
  have HSB : Hid (∀ k, k ≤ n → sqNR z k ≤ k * 16777216) := fun k => by
    induction k with
    | zero => intro _; exact Nat.le_refl _
    | succ k ih =>
      intro hk
      have h1 := ih (by omega)
      have h2 := hok.lt (i := k) (by omega)
      have h3 : wN z k ≤ 4096 := by unfold wN; omega
      have h4 : wN z k * wN z k ≤ 4096 * 4096 := Nat.mul_le_mul h3 h3
      show sqNR z k + wN z k * wN z k ≤ _
      omega
  obtain ⟨W0, hW0⟩ : ∃ W0, W0 = w.alloc (.cells #[.bool false, .slice none 0 0, .slice none 0 0] 50) := ⟨_, rfl⟩
  have hb0 : Below w.heap.size w W0 := by rw [hW0]; exact (Below.refl _ _).alloc (Nat.le_refl _) _
  have c0 : W0.cell? ⟨w.heap.size, 0, none⟩ = some (.bool false) := by rw [hW0]; simp
  have c1 : W0.cell? ⟨w.heap.size, 1, none⟩ = some (.slice none 0 0) := by rw [hW0]; simp
  have c2 : W0.cell? ⟨w.heap.size, 2, none⟩ = some (.slice none 0 0) := by rw [hW0]; simp
  have f0 : ∀ j, W0.frozen? ⟨w.heap.size, j, none⟩ = false := fun j => by rw [hW0]; simp
  have HC : Hid (∀ W, Below W0.heap.size W0 W → (W.cell? ⟨w.heap.size, 0, none⟩ = some (.bool false) ∧ W.cell? ⟨w.heap.size, 1, none⟩ = some (.slice none 0 0) ∧ W.cell? ⟨w.heap.size, 2, none⟩ = some (.slice none 0 0)) ∧ ∀ j, W.frozen? ⟨w.heap.size, j, none⟩ = false) := fun W hb => ⟨⟨by rw [hb.cell (cell_lt c0)]; exact c0, by rw [hb.cell (cell_lt c1)]; exact c1, by rw [hb.cell (cell_lt c2)]; exact c2⟩, fun j => by rw [hb.frozen (show w.heap.size < W0.heap.size from cell_lt c0)]; exact f0 j⟩
  have HEND : Hid (∀ W, Below W0.heap.size W0 W → Below w.heap.size w W) := fun W hb => hb0.trans (hb.mono hb0.size)
  have HW0 := Hid.mk' hW0
  have HL0 : Hid (w.heap.size < W0.heap.size) := cell_lt c0
  clear h hrow hok hw0 hS hb0 hW0 c0 c1 c2 f0
  go_enter Tryd.func25, Tryd.ntmps25
  go_upto_region 1 with fail
  rw [← HW0.out]
  go_wp2_with fail
  refine (HR0.out _).mono ?_
  rintro e w3 ⟨r3, rfl, hr3, hb3⟩
  obtain ⟨s3, x3, l3, k3, y3, m3, q3, rfl⟩ := hr3.sl
  have HRS := Hid.mk' (RBox.fresh hr3)
  have HBS : Hid (W0.heap.size ≤ w3.heap.size) := hb3.size
  have HB3 := Hid.mk' (below_chain hb3 (new_below w3 (.cells #[.bool s3, .slice x3 l3 k3, .slice y3 m3 q3] 50)))
  clear hr3 hb3 HR0
  go_wp2_with fail
  generalize w3.alloc (.cells #[.bool s3, .slice x3 l3 k3, .slice y3 m3 q3] 50) = W3 at *
  generalize w3.heap.size = Bs at *
  go_loopw [4] (fun t wr => ∃ (k : Nat) (sS : Bool) (xS : Option Addr) (lS cS : Nat) (yS : Option Addr) (mS kS : Nat), k ≤ n ∧ t = .int .i64 (k : Int) ∧ Hid (RBox wr Bs sS xS lS cS yS mS kS (lowN (S * S) (sqNR z k : Int)) (lowD (S * S) (sqNR z k : Int))) ∧ Hid (Below W0.heap.size W0 wr)) (fun t _ => n - (intOf t).toNat)
  case atStart => exact ⟨0, s3, x3, l3, k3, y3, m3, q3, Nat.zero_le _, rfl, HRS.out, HB3.out⟩
  case round =>
    clear HRS HB3
    obtain ⟨k, sS, xS, lS, cS, yS, mS, kS, hk, rfl, HSX0, HB⟩ := hrel
    have hsb := HSB.out k hk
    rcases Nat.lt_or_ge k n with h1 | h1
    · have hkI : (k : Int) < (n : Int) := by omega
      have hk0 : (0 : Int) ≤ (k : Int) := by omega
      have hx := HLT.out k h1
      have HN : Hid (((sqNR z (k + 1) : Nat) : Int) = (sqNR z k : Int) + z k * z k) := by
        show ((sqNR z k + wN z k * wN z k : Nat) : Int) = _
        have : (wN z k : Int) = z k := by unfold wN; omega
        rw [Int.natCast_add, Int.natCast_mul, this]
      have hxx : 0 ≤ z k * z k ∧ z k * z k ≤ 16777216 := ⟨Int.mul_nonneg hx.1 hx.1, Int.mul_le_mul (c := 4096) (d := 4096) hx.2 hx.2 hx.1 (by omega)⟩
      have HKX : Hid (∀ W, Below wr.heap.size wr W → W.cell? ⟨vb, vo + k, none⟩ = some (.int .i64 (z k))) := fun W hb => HRW.out W (HEND.out W (below_chain HB.out hb)) k h1
      have HSM : Hid (∀ W, Below wr.heap.size wr W → Calls Tryd.prog 38 #[.slice (some ⟨vb, vo, none⟩) n vc] W fun e w' => e = .returned (.int .i64 (S : Int)) ∧ Below W.heap.size W w') := fun W hb => HSU.out W (HEND.out W (below_chain HB.out hb))
      have HRO := Hid.mk' (fun W => HRO0.out (z k) W hx.1 hx.2)
      have HTI := Hid.mk' (fun W u u' => HTI0.out (z k) W u u' hx.1 hx.2)
      have HPL := Hid.mk' (fun W u u' => HPL0.out (sqNR z k : Int) (z k * z k) W u u' (by omega) (by omega) hxx.1 (by omega))
      clear HRW HSU HRO0 HTI0 HPL0 hxx hsb
      generalize hqe : sqNR z k = qk at *
      generalize z k = x at *
      rename World => wy
      go_wp2_with fail
      go_upto_region 5 with fail
      have HKS := HKX
      have HCA := HSM
      have HCB : Hid (∀ (W : World), Below wy.heap.size wy W → Calls Tryd.prog 22 #[.int .i64 x, .int .i64 (S : Int)] W fun e w' => ∃ r, e = .returned r ∧ LR w' r S x ∧ Below W.heap.size W w') := fun W _ => HRO.out W
      have hcur0 : Below wy.heap.size wy wy := Below.refl _ _
      have hcur : Below wy.heap.size wy wy.drew := (Below.refl _ _).drew
      have hcurA : ∀ X, Below wy.heap.size wy (wy.alloc X).drew := fun X => (new_below _ _).drew
      go_cut [5] from 7 to 24 (fun s' wx => ∃ Bs : Nat, s' = .pointer (some ⟨Bs, 0, none⟩) ∧ Hid (DBx wy wx Bs S x))
      case first =>
        go_region_held3 (fun W => W.cell? ⟨vb, vo + k, none⟩ = some (.int .i64 x))
          (first | exact HKS.out _ hcur0 | exact HKS.out _ hcur | exact HKS.out _ (hcurA _) | (refine HKS.out _ ?_; assumption) | (refine HKS.out _ (more_below ?_ _); assumption) | (refine HKS.out _ (set3_below ?_ NB.hB _ _ _); assumption))
          (first
            | (go_at_call 22; (have hz7 := hbw1; clear hz7); refine (HCB.out _ ?hcw).mono ?_; (case hcw => first | exact hcur0 | exact hcur | exact hcurA _ | exact hbw1 | exact more_below hbw1 _); rintro e w162 ⟨rv2, rfl, hrv2, hb2⟩; obtain ⟨sg2, xg2, lg2, cg2, xh2, lh2, ch2, rfl⟩ := hrv2.sl; (first | (have hbw2 := below_chain hbw1 hb2; (try have NB := NB.later hb2)) | (have hbw2 := below_chain (more_below hbw1 _) hb2; have NB := nbx_of hbw1 hb2)); (first | have hq12 : Below w161.heap.size w161 w162 := hb2 | have hq12 : Below w161.heap.size w161 w162 := below_chain (new_below _ _) hb2); (try (have y0 := NB.box.c0; have y1 := NB.box.c1; have y2 := NB.box.c2; have y3 := NB.box.fz 0 (by decide); have y4 := NB.box.fz 1 (by decide); have y5 := NB.box.fz 2 (by decide))); have HRV := Hid.mk' hrv2; clear hrv2)
            | (go_at_call 38; refine (HCA.out _ ?hcw).mono ?_; (case hcw => first | exact hcur0 | exact hcur | exact hcurA _); rintro e w161 ⟨rfl, hb1⟩; (first | (have hbw1 := below_chain hcur hb1) | (have hbw1 := below_chain (hcurA _) hb1; have NB := nbx_of hcur0 (below_chain ((Below.refl _ _).drew) hb1))); skip))
        all_goals
          go_wp2_with fail
          go_meet
          first | exact ⟨_, rfl, dbx_late hbw2 HRV.out⟩ | exact ⟨_, rfl, dbx_soon hbw2 HRV.out NB⟩
      case rest =>
      obtain ⟨Bq, rfl, HRB⟩ := hcut
      obtain ⟨Wq, hWq⟩ : ∃ W, W = wc := ⟨_, rfl⟩
      rw [← hWq] at HRB ⊢
      clear hWq hcur0 hcur hcurA HKS
      have hbx := HRB.out.below
      obtain ⟨sq, xq, lq, cq, yq, mq, kq, hbox⟩ := HRB.out.box
      have HXq := Hid.mk' hbox
      have HBq := Hid.mk' (below_chain HB.out hbx)
      have HSX := Hid.mk' (HSX0.out.later hbx)
      clear hbx hbox HRB HCA HCB HKX HSM HRO HSX0 HB
      have HKS : Hid (∀ W, Below Wq.heap.size Wq W → (W.cell? ⟨Bs, 0, none⟩ = some (.bool sS) ∧ W.cell? ⟨Bs, 1, none⟩ = some (.slice xS lS cS) ∧ W.cell? ⟨Bs, 2, none⟩ = some (.slice yS mS kS)) ∧ (W.cell? ⟨Bq, 0, none⟩ = some (.bool sq) ∧ W.cell? ⟨Bq, 1, none⟩ = some (.slice xq lq cq) ∧ W.cell? ⟨Bq, 2, none⟩ = some (.slice yq mq kq))) := fun W hb => ⟨⟨(HSX.out.later hb).c0, (HSX.out.later hb).c1, (HSX.out.later hb).c2⟩, ⟨(HXq.out.later hb).c0, (HXq.out.later hb).c1, (HXq.out.later hb).c2⟩⟩
      have hcur : Below Wq.heap.size Wq Wq.drew := (Below.refl _ _).drew
      go_upto_region 6 with fail
      refine region_but_last (n := 5) (S := (fun W => (W.cell? ⟨Bs, 0, none⟩ = some (.bool sS) ∧ W.cell? ⟨Bs, 1, none⟩ = some (.slice xS lS cS) ∧ W.cell? ⟨Bs, 2, none⟩ = some (.slice yS mS kS)) ∧ (W.cell? ⟨Bq, 0, none⟩ = some (.bool sq) ∧ W.cell? ⟨Bq, 1, none⟩ = some (.slice xq lq cq) ∧ W.cell? ⟨Bq, 2, none⟩ = some (.slice yq mq kq)))) (by kernel_rfl) (by kernel_rfl) (by kernel_rfl) (HKS.out _ hcur) (fun hHeld => ?_)
      refine wpAnyH_take (i := 0) (v := ?v0g) rfl (by kernel_rfl) (by kernel_rfl) (by kernel_rfl) (fun _ _ _ h => h) (Or.inl ⟨by rfl, ?hy0g⟩) (by assumption) ?rest0g
      case hy0g => (intro w hSw; (try dsimp only at hSw); go_simp <;> (try with_reducible rfl))
      simp only [Act.put]
      refine wpAnyH_take (i := 1) (v := ?v1g) rfl (by kernel_rfl) (by kernel_rfl) (by kernel_rfl) (fun _ _ _ h => h) (Or.inl ⟨by rfl, ?hy1g⟩) (by assumption) ?rest1g
      case hy1g => (intro w hSw; (try dsimp only at hSw); go_simp <;> (try with_reducible rfl))
      simp only [Act.put]
      refine wpAnyH_take (i := 2) (v := ?v2g) rfl (by kernel_rfl) (by kernel_rfl) (by kernel_rfl) (fun _ _ _ h => h) (Or.inl ⟨by rfl, ?hy2g⟩) (by assumption) ?rest2g
      case hy2g => (intro w hSw; (try dsimp only at hSw); go_simp <;> (try with_reducible rfl))
      simp only [Act.put]
      refine wpAnyH_ready (rs := [3]) (by kernel_rfl) (by simp) ?_
      refine AllReadyH.cons rfl (fun K hK => ?_) AllReadyH.nil
      go_simp
      refine (HTI.out _ _ _ (HXq.out.later hcur).rat (HXq.out.later hcur).rat).mono ?_
      rintro e wa ⟨ra, rfl, hra, hba⟩
      obtain ⟨sa, xa, la, ca, ya, ma, ka, rfl⟩ := hra.sl
      have hcur := below_chain hcur hba
      have HVa := Hid.mk' hra
      clear hra hba
      go_wp2_with fail
      refine hK.out _ _ ?_ (fun hHeld => ?_)
      · exact HKS.out _ hcur
      clear hK K
      refine wpAnyH_ready (rs := [4]) (by kernel_rfl) (by simp) ?_
      refine AllReadyH.cons rfl (fun K hK => ?_) AllReadyH.nil
      go_simp
      refine (HPL.out _ _ _ (HSX.out.later hcur).rat HVa.out).mono ?_
      rintro e wb ⟨rb, rfl, hrb, hbb⟩
      obtain ⟨sb, xb, lb, cb, yb, mb, kb, rfl⟩ := hrb.sl
      have hcur := below_chain hcur hbb
      have hL9 := HSX.out.later hcur
      have fz0 := hL9.fz 0 (by decide)
      have fz1 := hL9.fz 1 (by decide)
      have fz2 := hL9.fz 2 (by decide)
      have k0 := hL9.c0
      have k1 := hL9.c1
      have k2 := hL9.c2
      obtain ⟨⟨g0, g1⟩, ⟨g2, g3⟩, g4⟩ := put_three' (.bool sb) (.slice xb lb cb) (.slice yb mb kb) k0 k1 k2
      have HP := Hid.mk' (hL9.put hrb)
      have HB9 : Hid (Below W0.heap.size W0 (((wb.setCell ⟨Bs, 0, none⟩ (.bool sb)).setCell ⟨Bs, 1, none⟩ (.slice xb lb cb)).setCell ⟨Bs, 2, none⟩ (.slice yb mb kb))) := (((below_chain HBq.out hcur).setCell HBS.out _).setCell HBS.out _).setCell HBS.out _
      clear hL9 hrb hbb
      go_wp2_with fail
      refine hK.out _ _ ?_ (fun hHeld => ?_)
      · exact HKS.out _ hcur
      clear hK K
      refine wpAnyH_done (by kernel_rfl) ?_ _
      refine ahead_last rfl (fun K hK => ?_)
      go_simp
      refine hK _ _ ?_
      clear hK K
      unfold put3 at HP
      clear HKS HVa hHeld hcur k0 k1 k2 fz0 fz1 fz2 g0 g1 g2 g3 g4 HSX HXq HBq HTI HPL
      generalize ((wb.setCell ⟨Bs, 0, none⟩ (.bool sb)).setCell ⟨Bs, 1, none⟩ (.slice xb lb cb)).setCell ⟨Bs, 2, none⟩ (.slice yb mb kb) = wz at *
      go_wp2_with fail
      exact ⟨⟨k + 1, sb, xb, lb, cb, yb, mb, kb, h1, by go_num, by show RBox _ _ _ _ _ _ _ _ _ _ _; rw [HN.out]; exact HP.out, HB9.out⟩, by simp [intOf]; omega⟩
    · obtain rfl : k = n := by omega
      have hkI : ¬ (k : Int) < (k : Int) := by omega
      have hS9 := HSX0.out
      have q0 := hS9.c0
      have q1 := hS9.c1
      have q2 := hS9.c2
      obtain ⟨⟨d0, d1, d2⟩, df⟩ := HC.out wr HB.out
      have df0 := df 0
      have df1 := df 1
      have df2 := df 2
      obtain ⟨⟨g0, g1⟩, ⟨g2, g3⟩, g4⟩ := put_three' (.bool sS) (.slice xS lS cS) (.slice yS mS kS) d0 d1 d2
      have hX : RBox wr w.heap.size false none 0 0 none 0 0 0 0 := ⟨d0, d1, d2, ⟨_, _, rfl, big_none _, big_none _⟩, fun j _ => df j⟩
      have HP := Hid.mk' (RatioAt.put3 hX hS9.rat (.bool sS) (.slice xS lS cS) (.slice yS mS kS))
      have HBE : Hid (Below w.heap.size w (((wr.setCell ⟨w.heap.size, 0, none⟩ (.bool sS)).setCell ⟨w.heap.size, 1, none⟩ (.slice xS lS cS)).setCell ⟨w.heap.size, 2, none⟩ (.slice yS mS kS))) := (((HEND.out wr HB.out).setCell (Nat.le_refl _) _).setCell (Nat.le_refl _) _).setCell (Nat.le_refl _) _
      clear hS9 hX df
      go_wp2_with fail
      unfold put3 at HP
      have G0 := Hid.mk' g2
      have G1 := Hid.mk' g3
      have G2 := Hid.mk' g4
      clear g0 g1 g2 g3 g4
      generalize ((wr.setCell ⟨w.heap.size, 0, none⟩ (.bool sS)).setCell ⟨w.heap.size, 1, none⟩ (.slice xS lS cS)).setCell ⟨w.heap.size, 2, none⟩ (.slice yS mS kS) = W9 at *
      exact bodyPost_ret (v := .agg #[.bool sS, .slice xS lS cS, .slice yS mS kS]) (by simp [results, Tryd.results25, go_sem, G0.out, G1.out, G2.out]) rfl ⟨_, rfl, HP.out, HBE.out⟩
end Go.Proofs.YtiegobkbinojeaaDoor
