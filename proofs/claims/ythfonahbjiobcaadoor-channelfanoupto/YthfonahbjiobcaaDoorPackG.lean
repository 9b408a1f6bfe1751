/- FANO's two entropies, by value: that of the turned table, and that of being wrong. -/
import Derived.Test.YthfonahbjiobcaaDoorPackE
import Derived.Test.YthfonahbjiobcaaDoorPackF
import Derived.Test.YthfonahbjiobcaaDoorRows
import Derived.Test.YthfonahbjiobcaaDoorErrs
import Derived.ChangeSame
import Derived.ChangeVars
import Derived.JoinedOf
import Derived.LaidLaws
import Derived.LaidHandle
import Derived.LaidMore
import Derived.Stop.Joined
import Derived.Test.YthfonahbjiobcaaDoorInts
import Derived.Test.YthfonahbjiobcaaDoorCards
import Derived.Test.YthfonahbjiobcaaDoorTie
import Derived.SevenTiedAt
import Derived.ProofKit
import Derived.OpenShut
import Derived.ChangeOld
import Derived.Lib.SmallJoins
import Derived.Deep.Matrix
import Derived.Test.YthfonahbjiobcaaDoorPackD
import Derived.Deep.DeepHandedRow
import Derived.Deep.DeepWitnessRowRef
namespace Go.Proofs.YthfonahbjiobcaaDoor
open Go.RowKit

theorem sumN_W (f : Nat → Nat) : ∀ n, sumN (fun i => (f i : Int)) n = (sumW f n : Int)
  | 0 => rfl
  | n + 1 => by
    show sumN (fun i => (f i : Int)) n + (f n : Int) = ((sumW f n + f n : Nat) : Int)
    rw [sumN_W f n]; simp
theorem okT_fano {n : Nat} {z : Nat → Int} {R C : Nat} {zs : Nat → Nat → Int} (h : InOk n z R C zs) (hC : C ≤ 16) (h4 : inL n z R C zs ≤ 4096) (h1 : 1 ≤ inL n z R C zs) : OkT C (fun _ => R) (fun k i => (outN n z R C zs i k : Int)) (inL n z R C zs) := by
  refine ⟨h.c0, hC, h.n0, h.n16, fun _ _ => rfl, fun _ _ _ _ => by omega, ?_, h1, h4⟩
  rw [← h.all]
  have : (fun k => sumN (fun i => (outN n z R C zs i k : Int)) R) = fun k => ((colN (outN n z R C zs) R k : Nat) : Int) := funext fun k => sumN_W (fun i => outN n z R C zs i k) R
  show sumN (fun k => sumN (fun i => (outN n z R C zs i k : Int)) R) C = _
  rw [this]
  exact sumN_W _ C
theorem sumT_const2 (R C : Nat) (hR : R ≤ 16) (hC : C ≤ 16) : sumT (fun _ => R) C ≤ 400 := by
  rw [sumT_const]
  have := Nat.mul_le_mul hC hR
  omega
theorem Given_lv (a : Nat → Addr) (ad : Option Addr) (C R cap N : Nat) (vs : Nat → Value) (T : Nat → Nat → Int) (w : World) (hE : Errs w a) (h : TabAt w (.slice ad C cap) C vs (fun _ => R) T) (hk : OkT C (fun _ => R) T N) :
    Calls Tryd.prog 10 #[.slice ad C cap] w fun e w' => ∃ dn v, e = .returned (.tuple #[.agg #[.int .i64 dn, v], .nilIface]) ∧ LV w' N (fun x => sumN (givV (fun _ => R) T x) C) 4096 dn v ∧ Below w.heap.size w w' := by
  have h0 := tabErr_turned hk
  obtain ⟨N', hk', hN'⟩ := tabErr_okT h0
  have hNN : N' = N := by have h1 := hk'.tot; have h2 := hk.tot; rw [h1] at h2; omega
  subst hNN
  have h3 : sumT (fun _ => R) C ≤ 400 := sumT_const2 R C hk.c16 hk.r16
  refine (Given_ok a ad C cap N' _ vs (fun _ => R) T _ w hE h (by have := hk.r16; omega) h3 h0 hk rfl rfl hN').mono ?_
  rintro e w' ⟨dn, v, rfl, hl, hb⟩
  exact ⟨dn, v, rfl, hl.lv hk.n1 (by have := hk.n6; omega) (giv_prim hk), hb⟩
theorem Entropy_lv (a : Nat → Addr) (b cap e d : Nat) (w : World) (hE : Errs w a) (zz : Nat → Int) (z0 : zz 0 = (e : Int)) (z1 : zz 1 = ((d - e : Nat) : Int)) (hr : RowAt w b 0 2 zz) (hed : e ≤ d) (hd1 : 1 ≤ d) (hd : d ≤ 4096) :
    Calls Tryd.prog 11 #[.slice (some ⟨b, 0, none⟩) 2 cap] w fun ev w' => ∃ dn v, ev = .returned (.tuple #[.agg #[.int .i64 dn, v], .nilIface]) ∧ LV w' d (fun x => sumN (entV zz d x) 2) 4096 dn v ∧ Below w.heap.size w w' := by
  have hs : sumN zz 2 = (d : Int) := by
    show (0 + zz 0) + zz 1 = _
    rw [z0, z1]; omega
  have hnn : ∀ i, i < 2 → 0 ≤ zz i := fun i hi => by
    rcases (show i = 0 ∨ i = 1 by omega) with rfl | rfl
    · rw [z0]; omega
    · rw [z1]; omega
  have hok : OkW zz 2 := ⟨hnn, by rw [hs]; omega, by rw [hs]; omega⟩
  refine (Entropy_ok a b 0 cap 2 d zz w hE hr (wErr_of (by omega) hok) hs hnn (by omega) hd1 hd (by omega)).mono ?_
  rintro ev w' ⟨dn, v, rfl, hl, hb⟩
  exact ⟨dn, v, rfl, hl.lv hd1 (by omega) (ent_primW hok (by omega) ⟨hd1, hd⟩), hb⟩
end Go.Proofs.YthfonahbjiobcaaDoor

/- The law ChannelFano: the way where the table stands. -/
namespace Go.Proofs.YthfonahbjiobcaaDoor
open Go.RowKit

theorem taErr_ok3 {n : Nat} {z : Nat → Int} {R : Nat} {ns : Nat → Nat} {zs : Nat → Nat → Int} (h : taErr n z R ns zs = 0) : inErr n z R ns zs = 0 ∧ inL n z R (ns 0) zs ≤ 4096 := by
  unfold taErr at h
  by_cases h1 : inErr n z R ns zs ≠ 0
  · rw [if_pos h1] at h; exact absurd h h1
  · rw [if_neg h1] at h
    by_cases h2 : 4096 < inL n z R (ns 0) zs
    · rw [if_pos h2] at h; cases h
    · exact ⟨by omega, by omega⟩
theorem rowF_le {R : Nat} {ns : Nat → Nat} (h : sumT ns R ≤ 400) (i : Nat) (hi : i < R) : ns i ≤ 400 := by
  have h2 : sumT ns i + ns i ≤ sumT ns R := sumT_mono ns hi
  omega
/-- A logarithm in a box. -/
structure VBox (W : World) (B : Nat) (d : Int) (v : Value) : Prop where
  c0 : W.cell? ⟨B, 0, none⟩ = some (.int .i64 d)
  c1 : W.cell? ⟨B, 1, none⟩ = some v
  f0 : W.frozen? ⟨B, 0, none⟩ = false
  f1 : W.frozen? ⟨B, 1, none⟩ = false
theorem VBox.later {W W' : World} {B : Nat} {d : Int} {v : Value} (h : VBox W B d v) (hb : Below W.heap.size W W') : VBox W' B d v := ⟨(cell_past h.c0 hb).2, (cell_past h.c1 hb).2, (frozen_past h.c0 h.f0 hb).2, (frozen_past h.c1 h.f1 hb).2⟩
theorem vBox_new (w : World) (d : Int) (v : Value) (t : TypeId) : VBox (w.alloc (.cells #[.int .i64 d, v] t)) w.heap.size d v := ⟨by simp, by simp, by simp, by simp⟩
/-- All that the law asks of numbers. -/
theorem fano_end {n : Nat} {z : Nat → Int} {R C : Nat} {zs : Nat → Nat → Int} (h : InOk n z R C zs) (hR : 2 ≤ R) (h1 : 1 ≤ inL n z R C zs) (S e d : Nat) (hS : S = rightN (outN n z R C zs) R C) (he : e = (lowP (inL n z R C zs - S) (inL n z R C zs)).1) (hd : d = (lowP (inL n z R C zs - S) (inL n z R C zs)).2) (zz : Nat → Int) (z0 : zz 0 = (e : Int)) (z1 : zz 1 = ((d - e : Nat) : Int)) :
    ∃ g U D : Nat, 0 < g ∧ inL n z R C zs = g * d ∧ e ≤ d ∧ 1 ≤ d ∧ d ≤ inL n z R C zs ∧ 0 < U ∧ 0 < D ∧ D ≤ U ∧ ∀ q : Nat, Pr q → ((g : Int) * sumN (entV zz d (q : Int)) 2 + (g : Int) * ((e : Int) * multI (q : Int) (R - 1))) - sumN (givV (fun _ => R) (fun k i => (outN n z R C zs i k : Int)) (q : Int)) C = (mult q U : Int) - (mult q D : Int) := by
  obtain ⟨N, hN⟩ : ∃ N, N = inL n z R C zs := ⟨_, rfl⟩
  rw [← hN] at he hd h1 ⊢
  obtain ⟨E, hE⟩ : ∃ E, E = N - S := ⟨_, rfl⟩
  rw [← hE] at he hd
  have hSN : S ≤ N := by rw [hS, hN, ← h.all]; exact rightN_le _ _ _
  have hg0 : 0 < Nat.gcd E N := Nat.gcd_pos_of_pos_right _ h1
  have hgE : E = Nat.gcd E N * e := by rw [he]; exact (Nat.mul_div_cancel' (Nat.gcd_dvd_left E N)).symm
  have hgN : N = Nat.gcd E N * d := by rw [hd]; exact (Nat.mul_div_cancel' (Nat.gcd_dvd_right E N)).symm
  obtain ⟨U, D, hU, hD, hDU, hs⟩ := fano_sides (n := R) (C := C) (N := N) (S := S) (E := E) (T := fun k i => (outN n z R C zs i k : Int)) (Z := outN n z R C zs) (by omega) h1 (by rw [h.all, hN]) hS hE (fun _ _ _ _ => rfl)
  generalize hgg : Nat.gcd E N = g at *
  have hd1 : 1 ≤ d := by
    rcases Nat.eq_zero_or_pos d with h0 | h0
    · rw [h0] at hgN; simp at hgN; omega
    · exact h0
  have hed : e ≤ d := by
    have : g * e ≤ g * d := by omega
    exact Nat.le_of_mul_le_mul_left this hg0
  refine ⟨g, U, D, hg0, hgN, hed, hd1, ?_, hU, hD, hDU, fun q hq => ?_⟩
  · rw [hgN]; exact Nat.le_mul_of_pos_left d hg0
  · have h5 := fano_low (q : Int) E N (R - 1) g e d hg0 hd1 hgE hgN zz z0 z1
    have h6 := hs q hq
    rw [Int.mul_add] at h5
    rw [h5, show N - E = S by omega]
    exact h6
end Go.Proofs.YthfonahbjiobcaaDoor

/- The law ChannelFano: the walk where the table stands. -/
namespace Go.Proofs.YthfonahbjiobcaaDoor
open Go.RowKit

theorem VBox.put {w : World} {b : Nat} {d : Int} {v : Value} (h : VBox w b d v) (d' : Int) (v' : Value) : VBox ((w.setCell ⟨b, 0, none⟩ (.int .i64 d')).setCell ⟨b, 1, none⟩ v') b d' v' := by
  refine ⟨?_, ?_, ?_, ?_⟩
  · rw [World.cell?_setCell_other _ _ _ _ (by simp)]; exact World.cell?_setCell_same _ _ _ h.c0
  · exact World.cell?_setCell_same _ _ _ (by rw [World.cell?_setCell_other _ _ _ _ (by simp)]; exact h.c1)
  · rw [World.frozen?_setCell, World.frozen?_setCell]; exact h.f0
  · rw [World.frozen?_setCell, World.frozen?_setCell]; exact h.f1
theorem LV.put {w : World} {M L : Nat} {F : Int → Int} {dn : Int} {v : Value} {B : Nat} {ad : Option Addr} {l cap : Nat} {x y : Value} (h : LV w M F L dn v) (hx : w.cell? ⟨B, 1, none⟩ = some (.slice ad l cap)) : LV ((w.setCell ⟨B, 0, none⟩ x).setCell ⟨B, 1, none⟩ y) M F L dn v := by
  obtain ⟨d, t, h1, h2, h3⟩ := h
  exact ⟨d, t, h1, ownAt_put h2 hx, h3⟩
theorem LV.eqM {w : World} {M M' L : Nat} {F : Int → Int} {dn : Int} {v : Value} (h : LV w M F L dn v) (e : M = M') : LV w M' F L dn v := e ▸ h
set_option maxRecDepth 100000 in
set_option maxHeartbeats 8000000 in
theorem ChannelFano_main (a : Nat → Addr) (ad : Option Addr) (n cap : Nat) (z : Nat → Int) (ad' : Option Addr) (R cap' : Nat) (vs : Nat → Value) (ns : Nat → Nat) (zs : Nat → Nat → Int) (w : World) (hE : Errs w a) (h : NumsAt w (.slice ad n cap) n z) (k : TabAt w (.slice ad' R cap') R vs ns zs) (hm' : R ≤ maxLen) (hs : sumT ns R ≤ 2000000) (hf : R ≤ 40 ∧ sumT ns R ≤ 400) (hn : n ≤ 16) (hR2 : 2 ≤ R) (h0 : taErr n z R ns zs = 0) (hLp : 1 ≤ inL n z R (ns 0) zs) :
    Calls Tryd.prog 3 #[.slice ad n cap, .slice ad' R cap'] w fun e w' => e = .returned (.bool true) ∧ Below w.heap.size w w' := by
  have hC := noisy_any a w hE
  have HFW : Hid (∀ W, Below w.heap.size w W → Calls Tryd.prog 5 #[.slice ad' R cap'] W fun e w' => e = .returned (.bool true) ∧ Below W.heap.size W w') := fun W hb => few_any _ R vs ns zs W (k.later hb) hm' hs true ⟨fun _ => hf, fun _ => rfl⟩
  obtain ⟨hf1, hf2⟩ := hf
  have HN : Hid (∀ W, Below w.heap.size w W → NumsAt W (.slice ad n cap) n z) := fun W hb => h.later hb
  have HK : Hid (∀ W, Below w.heap.size w W → TabAt W (.slice ad' R cap') R vs ns zs) := fun W hb => k.later hb
  obtain ⟨he, hL4⟩ := taErr_ok3 h0
  have io := (inOk_of he).1
  obtain ⟨S, hS⟩ : ∃ S, S = rightN (outN n z R (ns 0) zs) R (ns 0) := ⟨_, rfl⟩
  obtain ⟨e, hee⟩ : ∃ e, e = (lowP (inL n z R (ns 0) zs - S) (inL n z R (ns 0) zs)).1 := ⟨_, rfl⟩
  obtain ⟨d, hdd⟩ : ∃ d, d = (lowP (inL n z R (ns 0) zs - S) (inL n z R (ns 0) zs)).2 := ⟨_, rfl⟩
  obtain ⟨zz, hzz⟩ : ∃ zz : Nat → Int, zz = fun i => if i = 0 then (e : Int) else ((d - e : Nat) : Int) := ⟨_, rfl⟩
  have z0 : zz 0 = (e : Int) := by rw [hzz]; rfl
  have z1 : zz 1 = ((d - e : Nat) : Int) := by rw [hzz]; rfl
  obtain ⟨g, U, D, hg0, hgN, hed, hd1, hdN, hU, hD, hDU, hsd⟩ := fano_end io hR2 hLp S e d hS hee hdd zz z0 z1
  have hkT := okT_fano io io.c16 hL4 hLp
  have hkR := okT_turned hkT
  have HTA : Hid (∀ (W : World) (x y : Value) (us : Nat → Value), Below w.heap.size w W → NumsAt W x n z → TabAt W y R us ns zs → Calls Tryd.prog 6 #[x, y] W fun ev w' => ∃ bt ot ct, ev = .returned (.tuple #[.slice (some ⟨bt, ot, none⟩) R ct, .nilIface]) ∧ (∀ V, Below w'.heap.size w' V → ∀ i, i < R → ∃ b1 o1 cap1, V.cell? ⟨bt, ot + i, none⟩ = some (.slice (some ⟨b1, o1, none⟩) (ns 0) cap1) ∧ RowAt V b1 o1 (ns 0) (fun q => (outN n z R (ns 0) zs i q : Int))) ∧ Below W.heap.size W w') := fun W x y us hb hx hy => by
    refine (chTable_any a x n z y R us ns zs W (hE.below hb) hx hy (by omega) hf1 (rowF_le hf2)).mono ?_
    rintro ev w' ⟨t', rfl, _, t1, hbw⟩
    obtain ⟨vs', hv'⟩ := t1 h0
    obtain ⟨adt, ct, rfl⟩ := hv'.form
    obtain ⟨bt, ot, rfl, hr⟩ := tab_rows (N := inL n z R (ns 0) zs) hv' hkR
    exact ⟨bt, ot, ct, by rw [h0, errV_zero], hr, hbw⟩
  have HGU : Hid (∀ (W : World) (x y : Value) (us : Nat → Value), Below w.heap.size w W → NumsAt W x n z → TabAt W y R us ns zs → Calls Tryd.prog 9 #[x, y] W fun ev w' => ∃ gg, ev = .returned (.tuple #[.slice (some ⟨gg, 0, none⟩) (ns 0) (ns 0), .agg #[.int .i64 (e : Int), .int .i64 (d : Int)], .nilIface]) ∧ Below W.heap.size W w') := fun W x y us hb hx hy => by
    refine (Guess_ok a x n z y R us ns zs W (hE.below hb) hx hy (by omega) hf1 (rowF_le hf2) h0 S hS).mono ?_
    rintro ev w' ⟨gg, rfl, _, hbw⟩
    exact ⟨gg, by rw [hee, hdd], hbw⟩
  obtain ⟨N, hN⟩ : ∃ N, N = inL n z R (ns 0) zs := ⟨_, rfl⟩
  obtain ⟨C, hCn⟩ : ∃ C, C = ns 0 := ⟨_, rfl⟩
  obtain ⟨Z, hZ⟩ : ∃ Z, Z = outN n z R (ns 0) zs := ⟨_, rfl⟩
  rw [← hN] at hgN hdN hkT hL4 hLp
  rw [← hZ] at HTA hkT hsd
  rw [← hCn] at HTA HGU hkT hsd
  have HGI : Hid (∀ (W : World) (adT : Option Addr) (capT : Nat) (us : Nat → Value), Below w.heap.size w W → TabAt W (.slice adT C capT) C us (fun _ => R) (fun q i => (Z i q : Int)) → Calls Tryd.prog 10 #[.slice adT C capT] W fun ev w' => ∃ dn v, ev = .returned (.tuple #[.agg #[.int .i64 dn, v], .nilIface]) ∧ LV w' N (fun x => sumN (givV (fun _ => R) (fun q i => (Z i q : Int)) x) C) 4096 dn v ∧ Below W.heap.size W w') := fun W adT capT us hb hv => Given_lv a adT C R capT N us _ W (hE.below hb) hv hkT
  have HEN : Hid (∀ (W : World) (b cp : Nat), Below w.heap.size w W → RowAt W b 0 2 zz → Calls Tryd.prog 11 #[.slice (some ⟨b, 0, none⟩) 2 cp] W fun ev w' => ∃ dn v, ev = .returned (.tuple #[.agg #[.int .i64 dn, v], .nilIface]) ∧ LV w' N (fun x => (g : Int) * sumN (entV zz d x) 2) 4096 dn v ∧ Below W.heap.size W w') := fun W b cp hb hr => by
    refine (Entropy_lv a b cp e d W (hE.below hb) zz z0 z1 hr hed hd1 (by omega)).mono ?_
    rintro ev w' ⟨dn, v, rfl, hl, hbw⟩
    exact ⟨dn, v, rfl, (hl.wide g).eqM hgN.symm, hbw⟩
  have HOF := Hid.mk' (fun W => Of_lv (R - 1) W (by omega) (by omega))
  have HSC : Hid (∀ (W : World) (d1 : Int) (v1 : Value), Below w.heap.size w W → LV W 1 (fun x => multI x (R - 1)) 40 d1 v1 → Calls Tryd.prog 13 #[.agg #[.int .i64 d1, v1], .agg #[.int .i64 (e : Int), .int .i64 (d : Int)]] W fun ev w' => ((∃ dn v, ev = .returned (.tuple #[.agg #[.int .i64 dn, v], .nilIface]) ∧ LV w' N (fun x => (g : Int) * ((e : Int) * multI x (R - 1))) 40 dn v) ∨ ∃ ad, ev = .returned (.tuple #[.agg #[.int .i64 0, .slice none 0 0], .iface 131 (.pointer (some ad))])) ∧ Below W.heap.size W w') := fun W d1 v1 hb hv => by
    refine (Scale_lv a W (hE.below hb) hv (by omega) (by omega) (by omega) hd1 (by omega)).mono ?_
    rintro ev w' ⟨⟨dn, v, rfl, hl⟩ | hr, hbw⟩
    · exact ⟨Or.inl ⟨dn, v, rfl, (hl.wide g).eqM (by rw [Nat.one_mul]; exact hgN.symm)⟩, hbw⟩
    · exact ⟨Or.inr hr, hbw⟩
  have HE : Hid (∀ W, Below w.heap.size w W → Errs W a) := fun W hb => hE.below hb
  have HSD := Hid.mk' hsd
  have HUD := Hid.mk' (And.intro hU (And.intro hD hDU))
  obtain ⟨i0, hi, hz0, hz1, hz2⟩ := info_parts Tryd.infoInt
  have HINF : Hid (Tryd.prog.info? 3 = some i0 ∧ i0.zero = some (.int .i64 0) ∧ i0.size = 1 ∧ i0.bytes = 8) := ⟨hi, hz0, hz1, hz2⟩
  obtain ⟨j0, hj, hy0, hy1, hy2⟩ := info_parts Tryd.infoInts
  have HINS : Hid (Tryd.prog.info? 22 = some j0 ∧ j0.zero = some (.slice none 0 0) ∧ j0.size = 1 ∧ j0.bytes = 24) := ⟨hj, hy0, hy1, hy2⟩
  have hC16 : C ≤ 16 := by have := io.c16; omega
  have hR16 : R ≤ 16 := io.n16
  have HZE : Hid (1 ≤ N) := hLp
  have HZZ : Hid (zz 0 = (e : Int) ∧ zz 1 = ((d - e : Nat) : Int)) := ⟨z0, z1⟩
  have hnI : ¬ (16 : Int) < (n : Int) := by omega
  have hRI : ¬ (R : Int) < 2 := by omega
  have hdI : ¬ (4096 : Int) < (d : Int) := by omega
  have hdJ : (d : Int) ≤ 4096 := by omega
  have heJ : (e : Int) ≤ (d : Int) := by omega
  have hde : (d : Int) - (e : Int) = ((d - e : Nat) : Int) := by omega
  have hR1 : (R : Int) - 1 = ((R - 1 : Nat) : Int) := by omega
  have hR0 : 0 < R := by omega
  clear hE h k h0 he hL4 io hS hee hdd hzz hkT hkR hsd hN hCn hZ hg0 hgN hU hD hDU z0 z1 hi hz0 hz1 hz2 hj hy0 hy1 hy2 hs hm' hLp
  go_enter Tryd.func3, Tryd.ntmps3
  go_wp2_with fail
  refine hC.mono ?_
  clear hC
  rintro ev w1 ⟨rfl, hb1⟩
  have HB1 := Hid.mk' hb1
  clear hb1
  go_wp2_with fail
  refine (HFW.out w1 HB1.out).mono ?_
  clear HFW
  rintro ev w2 ⟨rfl, hb2⟩
  have HB2 := Hid.mk' (below_chain HB1.out hb2)
  clear hb2
  go_wp2_with fail
  refine (ints_any _ n z w2 (HN.out _ HB2.out) (by omega)).mono ?_
  rintro ev w3 ⟨v3, rfl, hv3, hb3⟩
  have HV3 := Hid.mk' hv3
  have HB3 := Hid.mk' (below_chain HB2.out hb3)
  obtain ⟨ad3, cap3, rfl⟩ := hv3.form
  clear hv3 hb3
  go_wp2_with fail
  refine (lists_any _ R vs ns zs w3 (HK.out _ HB3.out) hf1 hf2).mono ?_
  rintro ev w4 ⟨v4, vs4, rfl, hv4, hb4⟩
  obtain ⟨ad4, cap4, rfl⟩ := hv4.form
  have HTC := Hid.mk' (HTA.out w4 _ _ vs4 (below_chain HB3.out hb4) (HV3.out.later hb4) hv4)
  have HB4 := Hid.mk' (below_chain HB3.out hb4)
  clear hv4 hb4 HTA
  go_wp2_with fail
  refine HTC.out.mono ?_
  clear HTC
  rintro ev w5 ⟨bt', ot, ct, rfl, hrows, hb5⟩
  have HRW := Hid.mk' hrows
  have HB5 := Hid.mk' (below_chain HB4.out hb5)
  clear hrows hb5
  go_wp2_with fail
  refine (ints_any _ n z w5 (HN.out _ HB5.out) (by omega)).mono ?_
  rintro ev w6 ⟨v6, rfl, hv6, hb6⟩
  have HV6 := Hid.mk' hv6
  have HS6 := Hid.mk' hb6
  have HB6 := Hid.mk' (below_chain HB5.out hb6)
  obtain ⟨ad6, cap6, rfl⟩ := hv6.form
  clear hv6 hb6
  go_wp2_with fail
  refine (lists_any _ R vs ns zs w6 (HK.out _ HB6.out) hf1 hf2).mono ?_
  rintro ev w7 ⟨v7, vs7, rfl, hv7, hb7⟩
  obtain ⟨ad7, cap7, rfl⟩ := hv7.form
  have HGC := Hid.mk' (HGU.out w7 _ _ vs7 (below_chain HB6.out hb7) (HV6.out.later hb7) hv7)
  have HB7 := Hid.mk' (below_chain HB6.out hb7)
  have HS7 := Hid.mk' (below_chain HS6.out hb7)
  clear hv7 hb7 HGU
  go_wp2_with fail
  refine HGC.out.mono ?_
  clear HGC
  rintro ev w8 ⟨gg, rfl, hb8⟩
  obtain ⟨WF, hWF⟩ : ∃ WF, WF = w8.alloc (.cells #[.int .i64 (e : Int), .int .i64 (d : Int)] 33) := ⟨_, rfl⟩
  have HBF : Hid (Below w.heap.size w WF) := by rw [hWF]; exact below_chain (below_chain HB7.out hb8) (new_below _ _)
  have HSF : Hid (Below w5.heap.size w5 WF) := by rw [hWF]; exact below_chain (below_chain HS7.out hb8) (new_below _ _)
  have HKF : Hid (VBox WF w8.heap.size (e : Int) (.int .i64 (d : Int))) := by rw [hWF]; exact vBox_new _ _ _ _
  have HWF := Hid.mk' hWF
  clear hb8 hWF HV3 HV6 HS6 HS7
  go_wp2_with fail
  rw [← HWF.out]
  clear HWF
  go_loopw [10, 11, 12, 13] (fun u i _ _ wr => ∃ (k : Nat) (us : Nat → Value), k ≤ C ∧ i = .int .i64 k ∧ Hid (wr.ownsRow WF.heap.size 22 1 u k (rowV us k)) ∧ Hid (∀ j, j < k → wr.ownsRow WF.heap.size 3 1 (us j) R (numCells (fun i => (Z i j : Int)) R)) ∧ Hid (Below WF.heap.size WF wr)) (fun _ i _ _ _ => C - (intOf i).toNat)
  case atStart => exact ⟨0, vs, Nat.zero_le _, rfl, ⟨rfl, Or.inl ⟨rfl, rfl⟩⟩, (fun i hi => by omega), Below.refl _ _⟩
  case round =>
    obtain ⟨k, us, hk, rfl, HO, HNA, HB⟩ := hrel
    obtain ⟨b0, o0, cap0, hc0, _⟩ := HRW.out wr (below_chain HSF.out HB.out) 0 hR0
    rw [Nat.add_zero] at hc0
    have hRP : (0 : Int) < (R : Int) := by omega
    rcases Nat.lt_or_ge k C with h1 | h1
    · have hkC : (k : Int) < (C : Int) := by omega
      go_wp2_with fail
      clear hc0
      obtain ⟨Wk, hWk⟩ : ∃ Wk, Wk = wr := ⟨_, rfl⟩
      rw [← hWk] at HO HNA HB ⊢
      clear hWk
      go_loopw [12, 13] (fun u i wn => ∃ m : Nat, m ≤ R ∧ i = .int .i64 m ∧ Hid (wn.ownsRow Wk.heap.size 3 1 u m (numCells (fun i => (Z i k : Int)) m)) ∧ Hid (Below Wk.heap.size Wk wn)) (fun _ i _ => R - (intOf i).toNat)
      case atStart => exact ⟨0, Nat.zero_le _, rfl, ⟨rfl, Or.inl ⟨rfl, rfl⟩⟩, Below.refl _ _⟩
      case round =>
        obtain ⟨m, hm', rfl, HP, HBN⟩ := hrel
        have hzn := HBN.out.size
        rcases Nat.lt_or_ge m R with h2 | h2
        · obtain ⟨b1, o1, cap1, hc1, hr1⟩ := HRW.out wr (below_chain (below_chain HSF.out HB.out) HBN.out) m h2
          have hc2 := hr1 k h1
          have hmR : (m : Int) < (R : Int) := by omega
          have hk0 : (0 : Int) ≤ (k : Int) := by omega
          clear hr1
          go_wp2_with (at_builtin; go_must (refine wpList_append_lies _ rfl _ _ _ rfl Wk.heap.size 3 i0 _ 1 8 Tryd.underlying22 HINF.out.1 HINF.out.2.1 HINF.out.2.2.1 HINF.out.2.2.2 rfl (by omega) u12 _ _ rfl (HP.out.alloc _) ⟨wr.heap.size, 0, none⟩ 1 1 [.int .i64 (Z m k : Int)] rfl rfl (one_new _ _ _) (by simp [Value.oneCell']) (by omega) (by unfold maxLen; omega) (by omega) (by simp; omega) _ rfl ?_; intro g' cap2 w5 hown5 hgrow5 hat5 hlt5; have HO5 := Hid.mk' hown5; have HG5 := Hid.mk' hgrow5; clear hown5 hgrow5 hat5))
          exact ⟨⟨m + 1, h2, by go_num, HO5, below_push HBN.out HP.out HG5.out⟩, by simp [intOf]; omega⟩
        · have e : R = m := by omega
          subst e
          have HO4 := Hid.mk' (own_past HO.out HBN.out)
          have HB4' := Hid.mk' (below_chain HB.out HBN.out)
          have HA4 : Hid (∀ j, j < k → wr.ownsRow WF.heap.size 3 1 (us j) R (numCells (fun i => (Z i j : Int)) R)) := fun j hj => own_past (HNA.out j hj) HBN.out
          have HV4 : Hid (wr.ownsRow WF.heap.size 3 1 u12 R (numCells (fun i => (Z i k : Int)) R)) := HP.out.mono HB.out.size
          obtain ⟨ad9, cap9, rfl, _⟩ := row_shape HP.out
          have hz4 := HB4'.out.size
          clear HO HNA HB HP HBN
          go_wp2_with (at_builtin; go_must (refine wpList_append_lies _ rfl _ _ _ rfl WF.heap.size 22 j0 _ 1 24 Tryd.underlying23 HINS.out.1 HINS.out.2.1 HINS.out.2.2.1 HINS.out.2.2.2 rfl (by omega) u10 _ _ rfl (HO4.out.alloc _) ⟨wr.heap.size, 0, none⟩ 1 1 [.slice ad9 R cap9] rfl rfl (one_new _ _ _) (by simp [Value.oneCell']) (by omega) (by unfold maxLen; omega) (by omega) (by simp; omega) _ rfl ?_; intro g' cap2 w5 hown5 hgrow5 hat5 hlt5; have HO5 := Hid.mk' hown5; have HG5 := Hid.mk' hgrow5; clear hown5 hgrow5 hat5))
          refine ⟨⟨k + 1, fun i => if i = k then .slice ad9 R cap9 else us i, h1, by go_num, ?_, fun i hi => ?_, below_push HB4'.out HO4.out HG5.out⟩, by simp [intOf]; omega⟩
          · rw [← rowV_push]
            exact HO5
          · show World.ownsRow _ _ _ _ _ _ _
            dsimp only
            by_cases hik : i = k
            · subst hik
              rw [if_pos rfl]
              exact own_beside (own_past HV4.out ((Below.refl _ _).alloc (Nat.le_refl _) _)) (HO4.out.alloc _) (by decide) HG5.out
            · rw [if_neg hik]
              exact own_beside (own_past (HA4.out i (by omega)) ((Below.refl _ _).alloc (Nat.le_refl _) _)) (HO4.out.alloc _) (by decide) HG5.out
    · have e9 : C = k := by omega
      subst e9
      have hT := tabAt_of_row HO.out (fun j hj => numsAt_own (HNA.out j hj))
      obtain ⟨adT, capT, rfl⟩ := hT.form
      have HBS := Hid.mk' (below_chain HBF.out HB.out)
      have HKS := Hid.mk' (HKF.out.later HB.out)
      have hgi := HGI.out wr adT capT us HBS.out hT
      clear hT HO HNA HB HRW HGI HKF HINF HINS
      go_wp2_with fail
      clear hc0
      refine hgi.mono ?_
      clear hgi
      rintro ev w9 ⟨dG, vG, rfl, hlG, hb9⟩
      obtain ⟨adG, nG, capG, rfl⟩ := hlG.form
      obtain ⟨WG, hWG⟩ : ∃ WG, WG = w9.alloc (.cells #[.int .i64 dG, .slice adG nG capG] 38) := ⟨_, rfl⟩
      obtain ⟨LG, hLG⟩ : ∃ l, l = w9.heap.size := ⟨_, rfl⟩
      have SG : Hid (Below wr.heap.size wr WG) := by rw [hWG]; exact more_below hb9 _
      have KG : Hid (VBox WG LG dG (.slice adG nG capG)) := by rw [hWG, hLG]; exact vBox_new _ _ _ _
      have QG : Hid (LV WG N (fun x => sumN (givV (fun _ => R) (fun q i => (Z i q : Int)) x) C) 4096 dG (.slice adG nG capG)) := by rw [hWG]; exact hlG.later (new_below _ _)
      have BG := Hid.mk' (below_chain HBS.out SG.out)
      have KF := Hid.mk' (HKS.out.later SG.out)
      have f0 := KF.out.c0
      have f1 := KF.out.c1
      have HWG := Hid.mk' hWG
      clear hlG hb9 hWG HKS
      go_upto_region 21 with fail
      rw [← HWG.out, ← hLG]
      clear HWG hLG
      go_wp2_with fail
      have hr2 : RowAt (WG.alloc (.cells #[.int .i64 (e : Int), .int .i64 ((d - e : Nat) : Int)] 3)) WG.heap.size 0 2 zz := fun i hi => by
        rcases (show i = 0 ∨ i = 1 by omega) with rfl | rfl
        · rw [HZZ.out.1]; simp
        · rw [HZZ.out.2]; simp
      have hen := HEN.out _ _ 2 (below_chain BG.out (new_below _ _)) hr2
      refine hen.mono ?_
      clear hen hr2 HEN HZZ f0 f1
      rintro ev w10 ⟨dH, vH, rfl, hlH, hb10⟩
      obtain ⟨adH, nH, capH, rfl⟩ := hlH.form
      obtain ⟨WH, hWH⟩ : ∃ WH, WH = w10.alloc (.cells #[.int .i64 dH, .slice adH nH capH] 38) := ⟨_, rfl⟩
      obtain ⟨LH, hLH⟩ : ∃ l, l = w10.heap.size := ⟨_, rfl⟩
      have SH : Hid (Below WG.heap.size WG WH) := by rw [hWH]; exact more_below (below_chain (new_below _ _) hb10) _
      have KH : Hid (VBox WH LH dH (.slice adH nH capH)) := by rw [hWH, hLH]; exact vBox_new _ _ _ _
      have QH : Hid (LV WH N (fun x => (g : Int) * sumN (entV zz d x) 2) 4096 dH (.slice adH nH capH)) := by rw [hWH]; exact hlH.later (new_below _ _)
      have BH := Hid.mk' (below_chain BG.out SH.out)
      have HWH := Hid.mk' hWH
      clear hlH hb10 hWH
      go_upto_region 22 with fail
      rw [← HWH.out, ← hLH]
      clear HWH hLH
      go_wp2_with fail
      refine (HOF.out WH).mono ?_
      clear HOF
      rintro ev w11 ⟨vL, rfl, hlL, hb11⟩
      obtain ⟨adL, nL, capL, rfl⟩ := hlL.form
      obtain ⟨WL, hWL⟩ : ∃ WL, WL = w11.alloc (.cells #[.int .i64 1, .slice adL nL capL] 38) := ⟨_, rfl⟩
      obtain ⟨LL, hLL⟩ : ∃ l, l = w11.heap.size := ⟨_, rfl⟩
      have hLH2 : WH.heap.size ≤ LL := by rw [hLL]; exact hb11.size
      have SL : Hid (Below WH.heap.size WH WL) := by rw [hWL]; exact more_below hb11 _
      have KL : Hid (VBox WL LL 1 (.slice adL nL capL)) := by rw [hWL, hLL]; exact vBox_new _ _ _ _
      have QL : Hid (LV WL 1 (fun x => multI x (R - 1)) 40 1 (.slice adL nL capL)) := by rw [hWL]; exact hlL.later (new_below _ _)
      have BL := Hid.mk' (below_chain BH.out SL.out)
      have KF2 := Hid.mk' (KF.out.later (below_chain SH.out SL.out))
      have HWL := Hid.mk' hWL
      clear hlL hb11 hWL KF
      go_upto_region 23 with fail
      rw [← HWL.out, ← hLL]
      clear HWL hLL
      have f0 := KF2.out.c0
      have f1 := KF2.out.c1
      have l0 := KL.out.c0
      have l1 := KL.out.c1
      go_wp2_with fail
      refine (HSC.out WL _ _ BL.out QL.out).mono ?_
      clear HSC f0 f1 l0 l1 KF2
      rintro ev w12 ⟨⟨dS, vS, rfl, hlS⟩ | ⟨adx, rfl⟩, hb12⟩
      · obtain ⟨adS, nS, capS, rfl⟩ := hlS.form
        have kl := KL.out.later hb12
        obtain ⟨WS, hWS⟩ : ∃ WS, WS = (w12.setCell ⟨LL, 0, none⟩ (.int .i64 dS)).setCell ⟨LL, 1, none⟩ (.slice adS nS capS) := ⟨_, rfl⟩
        have KS : Hid (VBox WS LL dS (.slice adS nS capS)) := by rw [hWS]; exact kl.put _ _
        have QS : Hid (LV WS N (fun x => (g : Int) * ((e : Int) * multI x (R - 1))) 40 dS (.slice adS nS capS)) := by rw [hWS]; exact hlS.put kl.c1
        have SS : Hid (Below WH.heap.size WH WS) := by rw [hWS]; exact setB_below (below_chain SL.out hb12) hLH2 _ _
        have BS := Hid.mk' (below_chain BH.out SS.out)
        have HWS := Hid.mk' hWS
        have l0 := kl.c0
        have l1 := kl.c1
        have l2 := kl.f0
        have l3 := kl.f1
        clear hlS hb12 hWS kl
        go_upto_region 26 with fail
        rw [← HWS.out]
        clear HWS l0 l1 l2 l3 KL QL SL
        have KH2 := Hid.mk' (KH.out.later SS.out)
        have h0 := KH2.out.c0
        have h1' := KH2.out.c1
        have l0 := KS.out.c0
        have l1 := KS.out.c1
        go_wp2_with fail
        refine (Add_lv a WS (HE.out _ BS.out) (QH.out.later SS.out) QS.out (by omega)).mono ?_
        rintro ev w13 ⟨⟨dA, vA, rfl, hlA⟩ | ⟨adx, rfl⟩, hb13⟩
        · obtain ⟨adA, nA, capA, rfl⟩ := hlA.form
          obtain ⟨WA, hWA⟩ : ∃ WA, WA = w13.alloc (.cells #[.int .i64 dA, .slice adA nA capA] 38) := ⟨_, rfl⟩
          obtain ⟨LA, hLA⟩ : ∃ l, l = w13.heap.size := ⟨_, rfl⟩
          have SA : Hid (Below WS.heap.size WS WA) := by rw [hWA]; exact more_below hb13 _
          have KA : Hid (VBox WA LA dA (.slice adA nA capA)) := by rw [hWA, hLA]; exact vBox_new _ _ _ _
          have hqa := hlA.later (new_below w13 (.cells #[.int .i64 dA, .slice adA nA capA] 38))
          rw [← hWA] at hqa
          have BA := Hid.mk' (below_chain BS.out SA.out)
          have SGA := Hid.mk' (below_chain (below_chain SH.out SS.out) SA.out)
          have hsg := sign_lv a WA (HE.out _ BA.out) hqa (QG.out.later SGA.out) (by omega) HZE.out HUD.out.1 HUD.out.2.1 HSD.out HUD.out.2.2
          have HWA := Hid.mk' hWA
          clear hlA hb13 hWA h0 h1' l0 l1 hqa
          go_upto_region 29 with fail
          rw [← HWA.out, ← hLA]
          clear HWA hLA
          have KG2 := Hid.mk' (KG.out.later SGA.out)
          have h0 := KG2.out.c0
          have h1' := KG2.out.c1
          have l0 := KA.out.c0
          have l1 := KA.out.c1
          go_wp2_with fail
          refine hsg.mono ?_
          clear hsg
          rintro ev w14 ⟨⟨zv, hzv, rfl⟩, hb14⟩
          go_wp2_with fail
          go_ret
          exact ⟨by simp, below_chain BA.out hb14⟩
        · go_wp2_with fail
          go_ret
          exact ⟨rfl, more_below (below_chain BS.out hb13) _⟩
      · have kl := KL.out.later hb12
        have l0 := kl.c0
        have l1 := kl.c1
        have l2 := kl.f0
        have l3 := kl.f1
        have hz0 := BH.out.size
        go_wp2_with fail
        go_ret
        exact ⟨rfl, setB_below (below_chain BL.out hb12) (by omega) _ _⟩
end Go.Proofs.YthfonahbjiobcaaDoor

/- The law ChannelFano: every way. -/
namespace Go.Proofs.YthfonahbjiobcaaDoor
open Go.RowKit

set_option maxRecDepth 100000 in
set_option maxHeartbeats 4000000 in
theorem ChannelFano_all (a : Nat → Addr) (ad : Option Addr) (n cap : Nat) (z : Nat → Int) (ad' : Option Addr) (R cap' : Nat) (vs : Nat → Value) (ns : Nat → Nat) (zs : Nat → Nat → Int) (w : World) (hE : Errs w a) (h : NumsAt w (.slice ad n cap) n z) (_ : n ≤ maxLen) (k : TabAt w (.slice ad' R cap') R vs ns zs) (hm' : R ≤ maxLen) (hs : sumT ns R ≤ 2000000) :
    Calls Tryd.prog 3 #[.slice ad n cap, .slice ad' R cap'] w fun e w' => e = .returned (.bool true) ∧ Below w.heap.size w w' := by
  have hC := noisy_any a w hE
  by_cases hf : R ≤ 40 ∧ sumT ns R ≤ 400
  · have HFW : Hid (∀ W, Below w.heap.size w W → Calls Tryd.prog 5 #[.slice ad' R cap'] W fun e w' => e = .returned (.bool true) ∧ Below W.heap.size W w') := fun W hb => few_any _ R vs ns zs W (k.later hb) hm' hs true ⟨fun _ => hf, fun _ => rfl⟩
    by_cases hn : n ≤ 16
    · have hnI : ¬ (16 : Int) < (n : Int) := by omega
      by_cases hR : 2 ≤ R
      · by_cases h0 : taErr n z R ns zs = 0
        · have hLp : 1 ≤ inL n z R (ns 0) zs := lcmP_pos _ fun p hp => by
            obtain ⟨i, k, hi, hk, rfl⟩ := flatF_mem hp
            exact ((inOk_of (taErr_ok3 h0).1).1.low hi k).1
          exact ChannelFano_main a ad n cap z ad' R cap' vs ns zs w hE h k hm' hs hf hn hR h0 hLp
        · obtain ⟨hf1, hf2⟩ := hf
          have hRI : ¬ (R : Int) < 2 := by omega
          have HN : Hid (∀ W, Below w.heap.size w W → NumsAt W (.slice ad n cap) n z) := fun W hb => h.later hb
          have HK : Hid (∀ W, Below w.heap.size w W → TabAt W (.slice ad' R cap') R vs ns zs) := fun W hb => k.later hb
          have HTA : Hid (∀ (W : World) (x y : Value) (us : Nat → Value), Below w.heap.size w W → NumsAt W x n z → TabAt W y R us ns zs → Calls Tryd.prog 6 #[x, y] W fun ev w' => ev = .returned (.tuple #[.slice none 0 0, .iface 131 (.pointer (some (a (taErr n z R ns zs - 1))))]) ∧ Below W.heap.size W w') := fun W x y us hb hx hy => by
            refine (chTable_any a x n z y R us ns zs W (hE.below hb) hx hy (by omega) hf1 (rowF_le hf2)).mono ?_
            rintro ev w' ⟨t', rfl, t1, _, hbw⟩
            rw [t1 h0, errV_pos a h0]
            exact ⟨rfl, hbw⟩
          generalize taErr n z R ns zs - 1 = c at *
          clear hE h k h0 hs hm'
          go_enter Tryd.func3, Tryd.ntmps3
          go_wp2_with (first
            | (go_at_call 4; refine hC.mono ?_; rintro e w1 ⟨rfl, hb1⟩; have HB1 := Hid.mk' hb1; clear hb1)
            | (go_at_call 5; refine (HFW.out w1 HB1.out).mono ?_; rintro e w2 ⟨rfl, hb2⟩; have HB2 := Hid.mk' (below_chain HB1.out hb2); clear hb2)
            | (go_at_call 7; refine (ints_any _ n z w2 (HN.out _ HB2.out) (by omega)).mono ?_; rintro e w3 ⟨v3, rfl, hv3, hb3⟩; obtain ⟨ad3, cap3, rfl⟩ := hv3.form; have HV3 := Hid.mk' hv3; have HB3 := Hid.mk' (below_chain HB2.out hb3); clear hv3 hb3)
            | (go_at_call 8; refine (lists_any _ R vs ns zs w3 (HK.out _ HB3.out) hf1 hf2).mono ?_; rintro e w4 ⟨v4, vs4, rfl, hv4, hb4⟩; obtain ⟨ad4, cap4, rfl⟩ := hv4.form; have HTC := Hid.mk' (HTA.out w4 _ _ vs4 (below_chain HB3.out hb4) (HV3.out.later hb4) hv4); have HB4 := Hid.mk' (below_chain HB3.out hb4); clear hv4 hb4)
            | (go_at_call 6; refine HTC.out.mono ?_; rintro e w5 ⟨rfl, hb5⟩; have HB5 := Hid.mk' (below_chain HB4.out hb5); clear hb5))
          go_ret
          exact ⟨rfl, HB5.out⟩
      · have hRI : (R : Int) < 2 := by omega
        clear hE h k hm' hs hf hR
        go_enter Tryd.func3, Tryd.ntmps3
        go_wp2_with (first
          | (go_at_call 4; refine hC.mono ?_; rintro e w1 ⟨rfl, hb1⟩; have HB1 := Hid.mk' hb1; clear hb1)
          | (go_at_call 5; refine (HFW.out w1 HB1.out).mono ?_; rintro e w2 ⟨rfl, hb2⟩; have HB2 := Hid.mk' (below_chain HB1.out hb2); clear hb2))
        go_ret
        exact ⟨rfl, HB2.out⟩
    · have hnI : (16 : Int) < (n : Int) := by omega
      clear hE h k hs hf hn
      go_enter Tryd.func3, Tryd.ntmps3
      go_wp2_with (first
        | (go_at_call 4; refine hC.mono ?_; rintro e w1 ⟨rfl, hb1⟩; have HB1 := Hid.mk' hb1; clear hb1)
        | (go_at_call 5; refine (HFW.out w1 HB1.out).mono ?_; rintro e w2 ⟨rfl, hb2⟩; have HB2 := Hid.mk' (below_chain HB1.out hb2); clear hb2))
      go_ret
      exact ⟨rfl, HB2.out⟩
  · have HFW : Hid (∀ W, Below w.heap.size w W → Calls Tryd.prog 5 #[.slice ad' R cap'] W fun e w' => e = .returned (.bool false) ∧ Below W.heap.size W w') := fun W hb => few_any _ R vs ns zs W (k.later hb) hm' hs false ⟨(fun e => by cases e), (fun e => absurd e hf)⟩
    clear hE h k hf
    go_enter Tryd.func3, Tryd.ntmps3
    go_wp2_with (first
      | (go_at_call 4; refine hC.mono ?_; rintro e w1 ⟨rfl, hb1⟩; have HB1 := Hid.mk' hb1; clear hb1)
      | (go_at_call 5; refine (HFW.out w1 HB1.out).mono ?_; rintro e w2 ⟨rfl, hb2⟩; have HB2 := Hid.mk' (below_chain HB1.out hb2); clear hb2))
    go_ret
    exact ⟨rfl, HB2.out⟩
end Go.Proofs.YthfonahbjiobcaaDoor

/- What the rows' condition on package variables gives a walk: two sentinels. -/
namespace Go.Proofs.YthfonahbjiobcaaDoor
open Go.ChangeShapes Go.WideShapes Go.RowKit

theorem Tryd.own : ownKnob Tryd.prog.godebug = none := by kernel_rfl
theorem Tryd.star : ("*" ++ "errors.errorString" : String) = "*errors.errorString" := by decide
theorem Tryd.rowE (u : TypeId) (h : Tryd.prog.typeName? 3 u = some "*errors.errorString") : u = 131 :=
  typeName_ptr_named (nm := "errors.errorString") (by rw [Tryd.star]; kernel_rfl) (by kernel_rfl) (by decide) u (by rw [Tryd.star]; exact h)
theorem Tryd.cellsE : Tryd.prog.cellsOf 149 = 1 := by kernel_rfl
theorem Tryd.cellsS : Tryd.prog.cellsOf 9 = 1 := by kernel_rfl
theorem Tryd.g1 : Tryd.prog.globalNamed "demon/api.ErrBound" = some 1 := by kernel_rfl
theorem Tryd.g2 : Tryd.prog.globalNamed "demon/api.ErrShape" = some 0 := by kernel_rfl

/-- Any number of listed sentinels of one type: each one's pointer, text and row; no two are one. -/
theorem laid_list {P : Program} {W : World} {nm : String} {ti tp te ts : TypeId} {ms : Array (String × TypeId)} {f : Field}
    (hi : P.underlying ti = some (.interface ms)) (hrow : ∀ u, P.typeName? 3 u = some nm → u = tp)
    (hp : P.underlying tp = some (.pointer te)) (he : P.underlying te = some (.struct #[f])) (hft : f.type = ts) (hfo : f.offset = 0) (hs : P.underlying ts = some .string) (hc : P.cellsOf te = 1) (hcs : P.cellsOf ts = 1) :
    ∀ (L : List (String × List UInt8)) (ps : List MemPlace), (∀ x, x ∈ L → ∃ g, P.globalNamed x.1 = some g ∧ (P.globals[g]?).map (·.type) = some ti) →
      DataW.LaidVars P W (L.map fun x => (x.1, .iface nm (.ptr (.agg [.lit (.string x.2)])))) ps → ps.Nodup →
      (∀ b off, MemPlace.cell b off ∈ ps → (∃ c t, W.heap[b]? = some (.cells c t (0, 0))) ∧ ∀ u v, W.cell? ⟨b, off, none⟩ = some (.iface u v) → Value.okWide P W .any 0 u v) →
      ∃ a : Nat → Addr, (∀ i x, L[i]? = some x → W.var? P x.1 = some #[.iface tp (.pointer (some (a i)))] ∧ (∃ s, W.cell? (a i) = some (.string s) ∧ s.data.toList = x.2) ∧
          (∃ c t, W.heap[(a i).block]? = some (.cells c t (0, 0))) ∧ MemPlace.cell (a i).block (a i).off ∈ ps) ∧
        ∀ i j, i < L.length → j < L.length → i ≠ j → a i ≠ a j := by
  intro L
  induction L with
  | nil => intro ps _ _ _ _; exact ⟨fun _ => default, fun i x h => by simp at h, fun i j h => by simp at h⟩
  | cons x r ih =>
    intro ps hgs hv hnd hrows
    obtain ⟨n, text⟩ := x
    obtain ⟨g0, t0, cs0, f0, p0, q0, hg0, ht0, hv0, hd0, hvr, e0⟩ := hv
    obtain ⟨g, hg, ht⟩ := hgs (n, text) (List.mem_cons_self ..)
    obtain rfl := Option.some.inj (hg.symm.trans hg0)
    obtain rfl := Option.some.inj (ht.symm.trans ht0)
    subst e0
    obtain ⟨l0⟩ := cs0
    have ok0 : ∀ u v, l0 = [.iface u v] → Value.okWide P W .any 0 u v := fun u v e => by
      subst e
      exact (hrows g 0 (by simp [MemPlace.row])).2 u v (by simpa using World.var?_cell hg0 hv0 0)
    obtain ⟨a0, s0, rfl, hc0, hs0, hz0, rfl⟩ := errorString_of_trod hi hrow hp he hft hfo hs hc hcs hd0 ok0
    obtain ⟨c0, tt0, hb0⟩ := (hrows a0.block a0.off (by simp [MemPlace.row])).1
    have hnq : q0.Nodup := List.Nodup.sublist (List.sublist_append_right _ _) hnd
    obtain ⟨a', ha', hne'⟩ := ih q0 (fun x hx => hgs x (List.mem_cons_of_mem _ hx)) hvr hnq (fun b off hm => hrows b off (List.mem_append_right _ hm))
    have hnot : MemPlace.cell a0.block a0.off ∉ q0 := by
      intro hm
      have := (List.nodup_append.1 hnd).2.2
      exact this (.cell a0.block a0.off) (by simp [MemPlace.row]) (.cell a0.block a0.off) hm rfl
    refine ⟨fun i => match i with | 0 => a0 | k + 1 => a' k, ?_, ?_⟩
    · intro i x hx
      cases i with
      | zero =>
        simp only [List.getElem?_cons_zero, Option.some.injEq] at hx
        subst hx
        exact ⟨hv0, ⟨s0, hc0, hs0⟩, ⟨c0, tt0, hb0⟩, by simp [MemPlace.row]⟩
      | succ k =>
        simp only [List.getElem?_cons_succ] at hx
        obtain ⟨h1, h2, h3, h4⟩ := ha' k x hx
        exact ⟨h1, h2, h3, List.mem_append_right _ h4⟩
    · have far : ∀ k, k < r.length → a0 ≠ a' k := fun k hk e => by
        obtain ⟨_, _, _, h4⟩ := ha' k r[k] (by simp [hk])
        rw [← e] at h4
        exact hnot h4
      intro i j hi' hj' hij
      cases i with
      | zero =>
        cases j with
        | zero => exact absurd rfl hij
        | succ k => exact far k (by simpa using hj')
      | succ m =>
        cases j with
        | zero => exact (far m (by simpa using hi')).symm
        | succ k => exact hne' m k (by simpa using hi') (by simpa using hj') (by omega)

/-- The names and texts, in the rows' order. -/
def twoNames : List (String × List UInt8) := [("demon/api.ErrBound", [100, 101, 109, 111, 110, 58, 32, 98, 111, 117, 110, 100]), ("demon/api.ErrShape", [100, 101, 109, 111, 110, 58, 32, 115, 104, 97, 112, 101])]
def laidAll : List (String × DataW Unit) := [("demon/api.ErrBound", Rows.laid_demon_api_ErrBound), ("demon/api.ErrShape", Rows.laid_demon_api_ErrShape)]
theorem laidAll_parts (W : World) : laidMetH Tryd.prog laidAll W = laidMet Tryd.prog (twoNames.map fun x => (x.1, .iface "*errors.errorString" (.ptr (.agg [.lit (.string x.2)])))) W := by kernel_rfl

theorem var_at {W : World} {n : String} {g : Nat} {v : Value} (hg : Tryd.prog.globalNamed n = some g) (h : W.var? Tryd.prog n = some #[v]) : W.cell? ⟨g, 0, none⟩ = some v := by
  simpa using World.var?_cell hg h 0

theorem errs_of_laid {W : World} (h : laidMetH Tryd.prog laidAll W) : ∃ a : Nat → Addr, Errs W a := by
  rw [laidAll_parts] at h
  obtain ⟨ps, hv, hnd, hrows⟩ := h
  obtain ⟨a, ha, hne⟩ := laid_list Tryd.underlying27 Tryd.rowE Tryd.underlying131 Tryd.underlying149 rfl rfl Tryd.underlying9 Tryd.cellsE Tryd.cellsS twoNames ps
    (fun x hx => by
      simp only [twoNames, List.mem_cons, List.not_mem_nil, or_false] at hx
      rcases hx with rfl | rfl
      · exact ⟨_, Tryd.g1, by kernel_rfl⟩
      · exact ⟨_, Tryd.g2, by kernel_rfl⟩) hv hnd hrows
  refine ⟨fun i => a (i - 1), ⟨var_at Tryd.g1 (ha 0 _ rfl).1, var_at Tryd.g2 (ha 1 _ rfl).1, fun i hi => ?_, fun i j hi hj hij => hne (i - 1) (j - 1) (by simp [twoNames]; omega) (by simp [twoNames]; omega) (by omega)⟩⟩
  rcases (show i = 1 ∨ i = 2 by omega) with rfl | rfl
  · exact (ha 0 _ rfl).2.2.1
  · exact (ha 1 _ rfl).2.2.1

/-- The door's own heap meets the condition. -/
theorem door_met (os : Os) (args : Array Value) : laidMetH Tryd.prog laidAll ((World.doorLaid Tryd.prog 47 os).forCall (fun _ _ => 0) ⟨#[], args, []⟩).memory := by
  rw [laidAll_parts]
  exact laidMet_of_run' 8 (by kernel_rfl) (by kernel_rfl)
end Go.Proofs.YthfonahbjiobcaaDoor

/- A parameter of type []int opened. -/
namespace Go.Proofs.YthfonahbjiobcaaDoor
open Go.ChangeShapes Go.WideShapes Go.ChangeAt Go.RowKit Go.Joins Go.Deep

theorem Tryd.laidOut : laidOutB Tryd.prog = true := by kernel_rfl
theorem Tryd.cellsInt : Tryd.prog.cellsOf 3 = 1 := by kernel_rfl
theorem Tryd.cellsInts : Tryd.prog.cellsOf 22 = 1 := by kernel_rfl

set_option maxRecDepth 100000 in
/-- What a parameter of type []int gives: its slice, its numbers. -/
theorem open_nums {H : Type} {enc : TypeId × Value → H} {W : World} {base : Nat} {v : Value} {d : DataW H} {p : List MemPlace} (hv : Value.okWide Tryd.prog W .any base 22 v)
    (h : DataW.Trod enc Tryd.prog W 0 (fun _ => true) true 22 v d p) :
    ∃ (ad : Option Addr) (n cap : Nat) (z : Nat → Int), v = .slice ad n cap ∧ n ≤ maxLen ∧ NumsAt W (.slice ad n cap) n z := by
  obtain ⟨ad, n, cap, rfl⟩ := okWide_slice Tryd.underlying22 hv
  obtain ⟨fuel, hf⟩ := h
  rcases open_ints Tryd.underlying22 Tryd.underlying3 Tryd.cellsInt hf with ⟨hc, _⟩ | ⟨a, len, cap', zs, hc, _, hl, hm, hz, _, hcell, _⟩
  · simp [Value.cells] at hc
    obtain ⟨rfl, rfl, rfl⟩ := hc
    exact ⟨none, 0, 0, fun _ => 0, rfl, Nat.zero_le _, Or.inl ⟨none, 0, rfl, rfl⟩⟩
  · simp [Value.cells] at hc
    obtain ⟨rfl, rfl, rfl⟩ := hc
    simp only [if_true] at hz
    rcases Nat.eq_zero_or_pos n with rfl | hpos
    · exact ⟨some a, 0, cap, fun _ => 0, rfl, Nat.zero_le _, Or.inl ⟨some a, cap, rfl, rfl⟩⟩
    · obtain ⟨b, o, spot⟩ := a
      have hspot : spot = none := by simpa [Addr.add] using World.cell?_spot (hcell 0 (by omega))
      subst hspot
      refine ⟨_, n, cap, fun i => zs.getD i 0, rfl, by omega, Or.inr ⟨b, o, cap, rfl, hpos, fun i hi => ?_⟩⟩
      have := hcell i (by omega)
      rw [Go.Proofs.YthfonahbjiobcaaDoor.add_plain] at this
      exact this
end Go.Proofs.YthfonahbjiobcaaDoor

/- A parameter of type [][]int opened; how many numbers it holds at the most. -/
namespace Go.Proofs.YthfonahbjiobcaaDoor
open Go.ChangeShapes Go.WideShapes Go.ChangeAt Go.RowKit Go.Joins Go.Deep

theorem bulk_one {H : Type} (d : DataW H) : 1 ≤ Rows.uptoBulk d := by
  cases d with
  | lit l => cases l <;> simp [Rows.uptoBulk]
  | _ => simp [Rows.uptoBulk]
theorem bulk_len {H : Type} : ∀ l : List (DataW H), l.length ≤ Rows.uptoBulkAll l
  | [] => by simp [Rows.uptoBulkAll]
  | x :: r => by
    have h1 := bulk_one x
    have h2 := bulk_len r
    simp only [Rows.uptoBulkAll, List.length_cons]
    omega
theorem bulk_mem {H : Type} {d : DataW H} : ∀ {l : List (DataW H)}, d ∈ l → Rows.uptoBulk d ≤ Rows.uptoBulkAll l
  | x :: r, h => by
    simp only [Rows.uptoBulkAll]
    rcases List.mem_cons.1 h with rfl | h'
    · omega
    · have := bulk_mem h'; omega
theorem bulk_append {H : Type} : ∀ l r : List (DataW H), Rows.uptoBulkAll (l ++ r) = Rows.uptoBulkAll l + Rows.uptoBulkAll r
  | [], r => by simp [Rows.uptoBulkAll]
  | x :: l, r => by simp only [List.cons_append, Rows.uptoBulkAll, bulk_append l r]; omega
theorem bulk_sum {H : Type} (f : Nat → DataW H) (L : Nat → Nat) : ∀ n, (∀ r, r < n → L r ≤ Rows.uptoBulk (f r)) → sumT L n ≤ Rows.uptoBulkAll ((List.range n).map f)
  | 0, _ => Nat.zero_le _
  | n + 1, h => by
    have h1 := bulk_sum f L n (fun r hr => h r (by omega))
    have h2 := h n (by omega)
    show sumT L n + L n ≤ _
    rw [List.range_succ, List.map_append, bulk_append]
    simp only [List.map_cons, List.map_nil, Rows.uptoBulkAll]
    omega

set_option maxRecDepth 100000 in
theorem open_table {H : Type} {enc : TypeId × Value → H} {W : World} {base : Nat} {v : Value} {d : DataW H} {p : List MemPlace} (hv : Value.okWide Tryd.prog W .any base 23 v)
    (h : DataW.Trod enc Tryd.prog W 0 (fun _ => true) true 23 v d p) :
    ∃ (ad : Option Addr) (R cap : Nat) (vs : Nat → Value) (ns : Nat → Nat) (zs : Nat → Nat → Int), v = .slice ad R cap ∧ R ≤ maxLen ∧ TabAt W (.slice ad R cap) R vs ns zs ∧ sumT ns R ≤ Rows.uptoBulk d := by
  obtain ⟨ad, R, cap, rfl⟩ := okWide_slice Tryd.underlying23 hv
  obtain ⟨fuel, hf⟩ := h
  rcases open_int_rows Tryd.underlying23 Tryd.underlying22 Tryd.underlying3 Tryd.cellsInts Tryd.cellsInt hf with ⟨hc, _⟩ | ⟨a, len, cap', A, L, C, Z, hc, _, hl, hm, hx, hr⟩
  · simp [Value.cells] at hc
    obtain ⟨rfl, rfl, rfl⟩ := hc
    exact ⟨none, 0, 0, fun _ => .slice none 0 0, fun _ => 0, fun _ _ => 0, rfl, Nat.zero_le _, Or.inl ⟨none, 0, rfl, rfl⟩, Nat.zero_le _⟩
  · simp [Value.cells] at hc
    obtain ⟨rfl, rfl, rfl⟩ := hc
    simp only [Prod.mk.injEq] at hx
    obtain ⟨rfl, _⟩ := hx
    have hbulk : sumT L R ≤ Rows.uptoBulk (DataW.slice ((List.range R).map fun r => intRow .i64 (A r) (L r) (Z r)) ((List.range (cap - R)).map fun j => intRow .i64 (A (R + j)) (L (R + j)) (Z (R + j))) : DataW H) := by
      have h1 := bulk_sum (H := H) (fun r => intRow .i64 (A r) (L r) (Z r)) L R (fun r hr' => by
        obtain ⟨_, h2, _, h4, _, h6, _⟩ := hr r (by omega)
        cases hA : A r with
        | none => have := h6 hA; omega
        | some a' =>
          have h7 := bulk_len (H := H) (lits .i64 ((Z r).take (L r)))
          have h8 : (lits (H := H) .i64 ((Z r).take (L r))).length = L r := by simp [lits]; omega
          simp only [intRow, Rows.uptoBulk]
          omega)
      simp only [Rows.uptoBulk]
      omega
    rcases Nat.eq_zero_or_pos R with rfl | hpos
    · exact ⟨some a, 0, cap, fun _ => .slice none 0 0, L, fun _ _ => 0, rfl, Nat.zero_le _, Or.inl ⟨some a, cap, rfl, rfl⟩, hbulk⟩
    · obtain ⟨b, o, spot⟩ := a
      have hspot : spot = none := by simpa [Addr.add] using World.cell?_spot (hr 0 (by omega)).1
      subst hspot
      refine ⟨_, R, cap, fun r => .slice (A r) (L r) (C r), L, fun r i => (Z r).getD i 0, rfl, by omega, Or.inr ⟨b, o, cap, rfl, hpos, fun i hi => ?_⟩, hbulk⟩
      obtain ⟨h1, h2, _, h4, _, h6, h7⟩ := hr i (by omega)
      rw [Go.Proofs.YthfonahbjiobcaaDoor.add_plain] at h1
      refine ⟨h1, ?_⟩
      rcases Nat.eq_zero_or_pos (L i) with h0 | h0
      · exact Or.inl ⟨A i, C i, by dsimp only; rw [h0], h0⟩
      · cases hA : A i with
        | none => have := h6 hA; omega
        | some a' =>
          obtain ⟨_, h8⟩ := h7 a' hA
          obtain ⟨b', o', spot'⟩ := a'
          have hs' : spot' = none := by simpa [Addr.add] using World.cell?_spot (h8 0 (by omega))
          subst hs'
          refine Or.inr ⟨b', o', C i, by dsimp only; rw [hA], h0, fun j hj => ?_⟩
          have := h8 j (by omega)
          rw [Go.Proofs.YthfonahbjiobcaaDoor.add_plain] at this
          exact this
theorem bulk_bound {H : Type} {l : List (DataW H)} (hk : Rows.uptoSmall H l = true) : Rows.uptoBulkAll l ≤ 1048576 := of_decide_eq_true hk
end Go.Proofs.YthfonahbjiobcaaDoor
