/- channel.Table. -/
import Derived.Test.YtnihclkaaglnjaaGreatDoorCnCat
import Derived.Test.YtnihclkaaglnjaaGreatDoorCnVal
import Derived.Deep.CutRange
import Derived.Deep.DeepCutAuto
namespace Go.Proofs.YtnihclkaaglnjaaGreatDoor
open Go.RowKit

/-- What is wrong with what goes in; the chances; their least common denominator; the table's error. -/
def inErr (n : Nat) (z : Nat → Int) (R : Nat) (ns : Nat → Nat) (zs : Nat → Nat → Int) : Nat := if chanErr R ns zs ≠ 0 then chanErr R ns zs else if weightsErr z n ≠ 0 then weightsErr z n else if n ≠ R then 3 else 0
def inF (n : Nat) (z : Nat → Int) (C : Nat) (zs : Nat → Nat → Int) (i k : Nat) : Nat × Nat := chaF (fun i => (z i).toNat) (sumN z n).toNat (fun i k => (zs i k).toNat) (fun i => (sumN (zs i) C).toNat) i k
def inL (n : Nat) (z : Nat → Int) (R C : Nat) (zs : Nat → Nat → Int) : Nat := lcmP (flatF C (inF n z C zs) R)
def outZ (n : Nat) (z : Nat → Int) (R C : Nat) (zs : Nat → Nat → Int) (i k : Nat) : Int := (wholeP (inL n z R C zs) (inF n z C zs i k) : Int)
def taErr (n : Nat) (z : Nat → Int) (R : Nat) (ns : Nat → Nat) (zs : Nat → Nat → Int) : Nat := if inErr n z R ns zs ≠ 0 then inErr n z R ns zs else if 4096 < inL n z R (ns 0) zs then 2 else 0
theorem inErr_ok {n : Nat} {z : Nat → Int} {R : Nat} {ns : Nat → Nat} {zs : Nat → Nat → Int} (h : inErr n z R ns zs = 0) : chanErr R ns zs = 0 ∧ weightsErr z n = 0 ∧ n = R := by
  unfold inErr at h
  by_cases h1 : chanErr R ns zs ≠ 0
  · rw [if_pos h1] at h; exact absurd h h1
  rw [if_neg h1] at h
  by_cases h2 : weightsErr z n ≠ 0
  · rw [if_pos h2] at h; exact absurd h h2
  rw [if_neg h2] at h
  by_cases h3 : n ≠ R
  · rw [if_pos h3] at h; cases h
  exact ⟨by omega, by omega, by omega⟩
theorem inErr_le (n : Nat) (z : Nat → Int) (R : Nat) (ns : Nat → Nat) (zs : Nat → Nat → Int) : inErr n z R ns zs ≤ 3 := by
  have h1 := chanErr_le R ns zs
  have h2 := weightsErr_le z n
  unfold inErr
  split
  · exact h1
  · split
    · exact h2
    · split <;> omega
theorem taErr_le (n : Nat) (z : Nat → Int) (R : Nat) (ns : Nat → Nat) (zs : Nat → Nat → Int) : taErr n z R ns zs ≤ 3 := by
  have := inErr_le n z R ns zs
  unfold taErr
  split
  · exact this
  · split <;> omega

/-- What a right input is, in numbers from 0 on. -/
structure InOk (n : Nat) (z : Nat → Int) (R C : Nat) (zs : Nat → Nat → Int) : Prop where
  n0 : 0 < R
  n16 : R ≤ 16
  c0 : 0 < C
  c16 : C ≤ 16
  nR : n = R
  okp : OkW z R
  okc : ∀ i, i < R → OkW (zs i) C
  le : ∀ i, i < R → sumN (zs i) C ≤ 256
theorem inOk_of {n : Nat} {z : Nat → Int} {R : Nat} {ns : Nat → Nat} {zs : Nat → Nat → Int} (h : inErr n z R ns zs = 0) : InOk n z R (ns 0) zs ∧ ∀ i, i < R → ns i = ns 0 := by
  obtain ⟨h1, h2, rfl⟩ := inErr_ok h
  obtain ⟨a, b, c, d, e, f, g⟩ := chanErr_ok h1
  exact ⟨⟨a, b, c, d, rfl, (weightsErr_ok h2).2, f, g⟩, e⟩
theorem sumN_toNat {z : Nat → Int} : ∀ {n : Nat}, (∀ i, i < n → 0 ≤ z i) → (sumN z n).toNat = sumW (fun i => (z i).toNat) n
  | 0, _ => rfl
  | n + 1, h => by
    have h1 := sumN_toNat (n := n) fun i hi => h i (by omega)
    have h2 := sumN_nonneg (n := n) fun i hi => h i (by omega)
    have h3 := h n (by omega)
    show (sumN z n + z n).toNat = sumW _ n + (z n).toNat
    omega
theorem InOk.sums {n : Nat} {z : Nat → Int} {R C : Nat} {zs : Nat → Nat → Int} (h : InOk n z R C zs) : (sumN z n).toNat = sumW (fun i => (z i).toNat) R ∧ 0 < (sumN z n).toNat ∧ ∀ i, i < R → (sumN (zs i) C).toNat = sumW (fun k => (zs i k).toNat) C ∧ 0 < (sumN (zs i) C).toNat := by
  have e := h.nR
  subst e
  refine ⟨sumN_toNat fun i hi => (h.okp.lt hi).1, by have := h.okp.pos; omega, fun i hi => ⟨sumN_toNat fun k hk => ((h.okc i hi).lt hk).1, by have := (h.okc i hi).pos; omega⟩⟩
theorem InOk.gcd {n : Nat} {z : Nat → Int} {R C : Nat} {zs : Nat → Nat → Int} (h : InOk n z R C zs) : gcdP (inL n z R C zs) (flatF C (inF n z C zs) R) = 1 := by
  obtain ⟨h1, h2, h3⟩ := h.sums
  exact chaF_gcd h1 h2 h3
theorem InOk.sum {n : Nat} {z : Nat → Int} {R C : Nat} {zs : Nat → Nat → Int} (h : InOk n z R C zs) : sumP (inL n z R C zs) (flatF C (inF n z C zs) R) = inL n z R C zs := by
  obtain ⟨h1, h2, h3⟩ := h.sums
  exact chaF_sum h1 h2 h3
theorem InOk.low {n : Nat} {z : Nat → Int} {R C : Nat} {zs : Nat → Nat → Int} (h : InOk n z R C zs) {i : Nat} (hi : i < R) (k : Nat) : LowP (inF n z C zs i k) := by
  obtain ⟨h1, h2, h3⟩ := h.sums
  exact lowP_low (Nat.mul_pos h2 (h3 i hi).2)
theorem InOk.bounds {n : Nat} {z : Nat → Int} {R C : Nat} {zs : Nat → Nat → Int} (h : InOk n z R C zs) {i k : Nat} (hi : i < R) (hk : k < C) : (z i).toNat ≤ 4096 ∧ (zs i k).toNat ≤ 256 ∧ (sumN z n).toNat ≤ 4096 ∧ (sumN (zs i) C).toNat ≤ 256 ∧ 0 < (inF n z C zs i k).2 ∧ (inF n z C zs i k).2 ≤ 1048576 ∧ (inF n z C zs i k).1 ≤ 1048576 := by
  have h1 := h.okp.lt hi
  have h2 := sumN_ge (fun k hk => ((h.okc i hi).lt hk).1) hk
  have h3 := h.le i hi
  have h4 := h.okp.part (Nat.le_refl _)
  rw [← h.nR] at h4
  have hc : (zs i k).toNat ≤ 256 := by omega
  have hp : (z i).toNat ≤ 4096 := by omega
  have hS : (sumN z n).toNat ≤ 4096 := by omega
  have hT : (sumN (zs i) C).toNat ≤ 256 := by omega
  refine ⟨hp, hc, hS, hT, (h.low hi k).1, ?_, ?_⟩
  · exact Nat.le_trans (Nat.div_le_self _ _) (Nat.le_trans (Nat.mul_le_mul hS hT) (by decide))
  · exact Nat.le_trans (Nat.div_le_self _ _) (Nat.le_trans (Nat.mul_le_mul hc hp) (by decide))
theorem toNat_row {w : World} {b o n : Nat} {z : Nat → Int} (h : RowAt w b o n z) (h0 : ∀ i, i < n → 0 ≤ z i) : RowAt w b o n (fun i => ((z i).toNat : Int)) := fun i hi => by
  rw [h i hi]
  have := h0 i hi
  congr 2
  show z i = ((z i).toNat : Int)
  omega

set_option maxRecDepth 100000 in
theorem Table_chan (a : Nat → Addr) (ad : Option Addr) (n cap : Nat) (v : Value) (R : Nat) (vs : Nat → Value) (ns : Nat → Nat) (zs : Nat → Nat → Int) (w : World) (hE : Errs w a) (h : TabAt w v R vs ns zs) (hR : R ≤ 40) (hns : ∀ i, i < R → ns i ≤ 400) (he : chanErr R ns zs ≠ 0) :
    Calls Tryz.prog 12 #[.slice ad n cap, v] w fun e w' => e = .returned (.tuple #[.slice none 0 0, errV a (chanErr R ns zs)]) ∧ w' = w := by
  have hV := chanValid_any a v R vs ns zs w hE h (by omega) (fun i hi => by have := hns i hi; omega)
  obtain ⟨ad', cap', rfl⟩ := h.form
  rw [errV_pos a he] at hV ⊢
  generalize a (chanErr R ns zs - 1) = pa at *
  clear h hE hns
  go_enter Tryz.func12, Tryz.ntmps12
  go_wp2_with fail
  refine hV.mono ?_
  clear hV
  rintro e w2 ⟨rfl, hw2⟩
  rw [hw2]
  clear hw2
  go_wp2_with fail
  go_ret2
  exact ⟨rfl, rfl⟩
set_option maxRecDepth 100000 in
theorem Table_weights (a : Nat → Addr) (u : Value) (n : Nat) (z : Nat → Int) (v : Value) (R : Nat) (vs : Nat → Value) (ns : Nat → Nat) (zs : Nat → Nat → Int) (w : World) (hE : Errs w a) (hu : NumsAt w u n z) (h : TabAt w v R vs ns zs) (hn : n ≤ 1000) (hR : R ≤ 40) (hns : ∀ i, i < R → ns i ≤ 400) (he : chanErr R ns zs = 0) (hwe : weightsErr z n ≠ 0) :
    Calls Tryz.prog 12 #[u, v] w fun e w' => e = .returned (.tuple #[.slice none 0 0, errV a (weightsErr z n)]) ∧ w' = w := by
  have hV := chanValid_any a v R vs ns zs w hE h (by omega) (fun i hi => by have := hns i hi; omega)
  have hW := Valid_weights a u n z w hE hu (by omega)
  obtain ⟨ad', cap', rfl⟩ := h.form
  obtain ⟨ad, cap, rfl⟩ := hu.form
  rw [he, errV_zero] at hV
  rw [errV_pos a hwe] at hW ⊢
  generalize a (weightsErr z n - 1) = pa at *
  clear h hE hns hu he
  go_enter Tryz.func12, Tryz.ntmps12
  go_wp2_with fail
  refine hV.mono ?_
  clear hV
  rintro e w2 ⟨rfl, hw2⟩
  rw [hw2]
  clear hw2
  go_wp2_with fail
  refine hW.mono ?_
  clear hW
  rintro e w2 ⟨rfl, hw2⟩
  rw [hw2]
  clear hw2
  go_wp2_with fail
  go_ret2
  exact ⟨rfl, rfl⟩
set_option maxRecDepth 100000 in
theorem Table_lens (a : Nat → Addr) (u : Value) (n : Nat) (z : Nat → Int) (v : Value) (R : Nat) (vs : Nat → Value) (ns : Nat → Nat) (zs : Nat → Nat → Int) (w : World) (hE : Errs w a) (hu : NumsAt w u n z) (h : TabAt w v R vs ns zs) (hn : n ≤ 1000) (hR : R ≤ 40) (hns : ∀ i, i < R → ns i ≤ 400) (he : chanErr R ns zs = 0) (hwe : weightsErr z n = 0) (hne : n ≠ R) :
    Calls Tryz.prog 12 #[u, v] w fun e w' => e = .returned (.tuple #[.slice none 0 0, errV a 3]) ∧ Below w.heap.size w w' := by
  have hV := chanValid_any a v R vs ns zs w hE h (by omega) (fun i hi => by have := hns i hi; omega)
  have hW := Valid_weights a u n z w hE hu (by omega)
  obtain ⟨ad', cap', rfl⟩ := h.form
  obtain ⟨ad, cap, rfl⟩ := hu.form
  rw [he, errV_zero] at hV
  rw [hwe, errV_zero] at hW
  rw [errV_three]
  have cS := hE.c2
  have hnb : ((n : Int) != (R : Int)) = true := by rw [bne_iff_ne]; omega
  clear h hE hns hu he hwe hne
  go_enter Tryz.func12, Tryz.ntmps12
  go_wp2_with fail
  refine hV.mono ?_
  clear hV
  rintro e w2 ⟨rfl, hw2⟩
  rw [hw2]
  clear hw2
  go_wp2_with fail
  refine hW.mono ?_
  clear hW
  rintro e w2 ⟨rfl, hw2⟩
  rw [hw2]
  clear hw2
  go_wp2_with fail
  go_region
  all_goals
    go_wp2_with fail
    go_ret2
    exact ⟨rfl, (Below.refl _ _).drew⟩

theorem wrapc_nat {x : Int} (h0 : 0 ≤ x) (h : x ≤ 1152921504606846976) : IntKind.i64.wrap x = x := by
  simp only [IntKind.wrap_i64]
  omega
theorem Tryz.infoFcs : (Tryz.prog.info? 52).map (fun i => (i.zero, i.size, i.bytes)) = some (some (.slice none 0 0), 1, 24) := by kernel_rfl

set_option maxRecDepth 100000 in
set_option maxHeartbeats 8000000 in
theorem Table_main (a : Nat → Addr) (u : Value) (n : Nat) (z : Nat → Int) (v : Value) (R : Nat) (vs : Nat → Value) (ns : Nat → Nat) (zs : Nat → Nat → Int) (w : World) (hE : Errs w a) (hu : NumsAt w u n z) (h : TabAt w v R vs ns zs) (he : inErr n z R ns zs = 0) :
    Calls Tryz.prog 12 #[u, v] w fun e w' => (inL n z R (ns 0) zs ≤ 4096 → ∃ g rb, e = .returned (.tuple #[.slice (some ⟨g, 0, none⟩) R R, .nilIface]) ∧ FG w w' g R (ns 0) (ns 0) R rb (fun i k => .int .i64 (outZ n z R (ns 0) zs i k))) ∧ (4096 < inL n z R (ns 0) zs → e = .returned (.tuple #[.slice none 0 0, errV a 2])) ∧ Below w.heap.size w w' := by
  obtain ⟨hok, hev⟩ := inOk_of he
  obtain ⟨hch, hwe, _⟩ := inErr_ok he
  have hV := chanValid_any a v R vs ns zs w hE h (by have := hok.n16; omega) (fun i hi => by rw [hev i hi]; have := hok.c16; omega)
  have hW := Valid_weights a u n z w hE hu (by have := hok.n16; have := hok.nR; omega)
  rw [hch, errV_zero] at hV
  rw [hwe, errV_zero] at hW
  obtain rfl := hok.nR
  have HOK := Hid.mk' hok
  obtain ⟨pb, po, cap, rfl, hp⟩ : ∃ pb po cap, u = .slice (some ⟨pb, po, none⟩) n cap ∧ RowAt w pb po n z := by
    rcases hu with ⟨_, _, _, h1⟩ | ⟨pb, po, cap, h1, _, h2⟩
    · have := hok.n0; omega
    · exact ⟨pb, po, cap, h1, h2⟩
  obtain ⟨b, o, cap', rfl, hr⟩ : ∃ b o cap', v = .slice (some ⟨b, o, none⟩) n cap' ∧ ∀ i, i < n → ∃ rb ro rc, w.cell? ⟨b, o + i, none⟩ = some (.slice (some ⟨rb, ro, none⟩) (ns 0) rc) ∧ RowAt w rb ro (ns 0) (zs i) := by
    rcases h with ⟨_, _, _, h1⟩ | ⟨b, o, cap', h1, _, h2⟩
    · have := hok.n0; omega
    · refine ⟨b, o, cap', h1, fun i hi => ?_⟩
      obtain ⟨h3, h4⟩ := h2 i hi
      rw [hev i hi] at h4
      rcases h4 with ⟨_, _, _, h5⟩ | ⟨rb, ro, rc, h5, _, h6⟩
      · have := hok.c0; omega
      · exact ⟨rb, ro, rc, by rw [h3, h5], h6⟩
  obtain ⟨i0, hi, hz0, hz1, hz2⟩ := info_parts Tryz.infoFcs
  have HINF : Hid (Tryz.prog.info? 52 = some i0 ∧ i0.zero = some (.slice none 0 0) ∧ i0.size = 1 ∧ i0.bytes = 24) := ⟨hi, hz0, hz1, hz2⟩
  clear hi hz0 hz1 hz2
  obtain ⟨i1, hi, hz0, hz1, hz2⟩ := info_parts Tryz.infoInts
  have HINI : Hid (Tryz.prog.info? 26 = some i1 ∧ i1.zero = some (.slice none 0 0) ∧ i1.size = 1 ∧ i1.bytes = 24) := ⟨hi, hz0, hz1, hz2⟩
  clear hi hz0 hz1 hz2
  have cB := hE.c1
  have HE := Hid.mk' hE
  have HP : Hid (∀ W, Below w.heap.size w W → RowAt W pb po n z) := fun W hb => hp.later hb
  have HR : Hid (∀ W, Below w.heap.size w W → ∀ i, i < n → ∃ rb ro rc, W.cell? ⟨b, o + i, none⟩ = some (.slice (some ⟨rb, ro, none⟩) (ns 0) rc) ∧ RowAt W rb ro (ns 0) (zs i)) := fun W hb i hi => by
    obtain ⟨rb, ro, rc, h1, h2⟩ := hr i hi
    exact ⟨rb, ro, rc, by rw [hb.cell (cell_lt h1)]; exact h1, h2.later hb⟩
  have h16 := hok.n16
  have h0 := hok.n0
  have hC16 := hok.c16
  have hC0 := hok.c0
  have HTP : Hid (∀ W, Below w.heap.size w W → Calls Tryz.prog 28 #[.slice (some ⟨pb, po, none⟩) n cap] W fun e w' => e = .returned (.int .i64 ((sumN z n).toNat : Int)) ∧ w' = W) := fun W hb => by
    refine (total_some pb po cap n z W (hp.later hb) (fun m hm => by have := hok.okp.part hm; omega) (fun m hm => by have := hok.okp.lt hm; omega) (by omega)).mono ?_
    rintro e w1 ⟨rfl, rfl⟩
    exact ⟨by have := hok.okp.pos; congr 2; omega, rfl⟩
  have HS : Hid ((sumN z n).toNat ≤ 4096 ∧ 0 < (sumN z n).toNat) := ⟨by have := hok.okp.le; omega, by have := hok.okp.pos; omega⟩
  obtain ⟨fF, hfF⟩ : ∃ fF, fF = inF n z (ns 0) zs := ⟨_, rfl⟩
  have HFF := Hid.mk' hfF
  have HLL : Hid (inL n z n (ns 0) zs = lcmP (flatF (ns 0) fF n)) := by show _ = _; rw [hfF]; rfl
  have HOZ : Hid (∀ i k, outZ n z n (ns 0) zs i k = (wholeP (inL n z n (ns 0) zs) (fF i k) : Int)) := fun i k => by rw [hfF]; rfl
  have HFB : Hid (∀ i k, i < n → k < ns 0 → 0 < (fF i k).2 ∧ (fF i k).2 ≤ 1048576 ∧ (fF i k).1 ≤ 1048576) := fun i k hi hk => by
    rw [hfF]
    obtain ⟨_, _, _, _, h5, h6, h7⟩ := hok.bounds hi hk
    exact ⟨h5, h6, h7⟩
  have hnb : ((n : Int) != (n : Int)) = false := by simp
  generalize inL n z n (ns 0) zs = L at *
  clear hE hu h he hok hev hch hwe hp hr hfF
  generalize ns 0 = C at *
  have hS := HS.out
  generalize hSe : (sumN z n).toNat = S at *
  have HSE := Hid.mk' hSe
  clear hSe HS
  have hcur0 : Below w.heap.size w w := Below.refl _ _
  have hcur : Below w.heap.size w w.drew := (Below.refl _ _).drew
  go_enter Tryz.func12, Tryz.ntmps12
  go_wp2_with fail
  refine hV.mono ?_
  clear hV
  rintro e w2 ⟨rfl, hw2⟩
  rw [hw2]
  clear hw2
  go_wp2_with fail
  refine hW.mono ?_
  clear hW
  rintro e w2 ⟨rfl, hw2⟩
  rw [hw2]
  clear hw2
  go_wp2_with fail
  obtain ⟨w2, hmk, hown2, hgrow2⟩ := run_make_full (P := Tryz.prog) w.drew w.drew.heap.size 63 52 i0 _ 1 Tryz.underlying63 HINF.out.1 HINF.out.2.1 HINF.out.2.2.1 .i64 .i64 n (by rw [HINF.out.2.2.2]; omega) (by unfold maxLen; omega) (Nat.le_refl _)
  have HF2 : Hid (RowIs w2 w.heap.size n (fun _ => .slice none 0 0)) := rowIs_made hown2 (made_one (.slice none 0 0) rfl n)
  have HB2 : Hid (Below w.heap.size w w2) := (Below.refl _ _).drew.trans (made_below hgrow2)
  clear hown2 hgrow2
  go_cut [8, 9] from 33 (fun s r wx => s = .int .i64 (S : Int) ∧ r = .slice (some ⟨w.heap.size, 0, none⟩) n n ∧ Hid (RowIs wx w.heap.size n (fun _ => .slice none 0 0)) ∧ Hid (Below w.heap.size w wx))
  case first =>
    go_region_held3 (fun _ => True) (exact trivial) (first
      | (go_at_call 28; refine (HTP.out _ (by first | exact HB2.out | exact hcur | exact hcur0)).mono ?_; rintro e w3 ⟨rfl, hw3⟩; rw [hw3]; clear hw3))
    all_goals
      go_wp2_with fail
      go_meet
      exact ⟨rfl, rfl, HF2, HB2⟩
  case rest =>
  clear hmk HF2 HB2
  obtain ⟨rfl, rfl, HF2, HB2⟩ := hcut
  go_wp2_with fail
  go_loopw [40] (fun t wr => ∃ (i : Nat) (rb : Nat → Nat), i ≤ n ∧ t = .int .i64 i ∧ Hid (FG w wr w.heap.size n C (2 * C) i rb (fun i => frC (fF i)))) (fun t _ => n - (intOf t).toNat)
  case atStart => exact ⟨0, fun _ => 0, Nat.zero_le _, rfl, fg_start HF2.out HB2.out (Nat.le_refl _) _ _⟩
  case round =>
    clear HF2 HB2
    obtain ⟨i, rb, hi, rfl, HG⟩ := hrel
    rcases Nat.lt_or_ge i n with h1 | h1
    · have hiI : (i : Int) < (n : Int) := by omega
      have hi0 : (0 : Int) ≤ (i : Int) := by omega
      obtain ⟨kb, ko, kc, hc, hrow⟩ := HR.out wr HG.out.below i h1
      have HBd : Hid (Below w.heap.size w wr.drew) := HG.out.below.drew
      have hokc := HOK.out.okc i h1
      have hT : (sumN (zs i) C).toNat ≤ 256 ∧ 0 < (sumN (zs i) C).toNat := ⟨by have := HOK.out.le i h1; omega, by have := hokc.pos; omega⟩
      have hpz := HOK.out.okp.lt h1
      have HTR : Hid (Calls Tryz.prog 28 #[.slice (some ⟨kb, ko, none⟩) C kc] wr.drew fun e w' => e = .returned (.int .i64 ((sumN (zs i) C).toNat : Int)) ∧ w' = wr.drew) := by
        refine (total_some kb ko kc C (zs i) wr.drew (hrow.later (Below.refl _ _).drew) (fun m hm => by have := hokc.part hm; omega) (fun m hm => by have := hokc.lt hm; omega) (by omega)).mono ?_
        rintro e w1 ⟨rfl, rfl⟩
        exact ⟨by have := hokc.pos; congr 2; omega, rfl⟩
      have HPT : Hid (Calls Tryz.prog 29 #[.slice (some ⟨kb, ko, none⟩) C kc, .int .i64 ((z i).toNat : Int), .int .i64 ((S * (sumN (zs i) C).toNat : Nat) : Int)] wr.drew fun e w' => e = .returned (.slice (some ⟨wr.heap.size, 0, none⟩) C C) ∧ RowIs w' wr.heap.size (2 * C) (frC (fF i)) ∧ Below wr.heap.size wr w') := by
        refine (parts_any kb ko kc C (z i).toNat (S * (sumN (zs i) C).toNat) (fun k => (zs i k).toNat) wr.drew (toNat_row (hrow.later (Below.refl _ _).drew) (fun k hk => (hokc.lt hk).1)) hC16 (fun k hk => (HOK.out.bounds h1 hk).2.1) (by omega) (Nat.mul_pos hS.2 hT.2) (Nat.le_trans (Nat.mul_le_mul hS.1 hT.1) (by decide))).mono ?_
        rintro e w1 ⟨rfl, h5, h6⟩
        refine ⟨rfl, ?_, (Below.refl _ _).drew.trans h6⟩
        have e5 : fF i = fun k => lowP ((zs i k).toNat * (z i).toNat) (S * (sumN (zs i) C).toNat) := by rw [HFF.out, ← HSE.out]; rfl
        rw [e5]
        exact h5
      have HPC : Hid (∀ W, Below w.heap.size w W → W.cell? ⟨pb, po + i, none⟩ = some (.int .i64 ((z i).toNat : Int))) := fun W hb => by rw [HP.out W hb i h1]; congr 2; omega
      have hpc := HPC.out wr HG.out.below
      have hcast : (S : Int) * ((sumN (zs i) C).toNat : Int) = ((S * (sumN (zs i) C).toNat : Nat) : Int) := by simp
      have hST : S * (sumN (zs i) C).toNat ≤ 1048576 := Nat.le_trans (Nat.mul_le_mul hS.1 hT.1) (by decide)
      have hpn : (z i).toNat ≤ 4096 := by omega
      clear hokc hrow hpz
      generalize (sumN (zs i) C).toNat = T at *
      generalize (z i).toNat = p at *
      generalize S * T = ST at *
      have hwr : IntKind.i64.wrap (ST : Int) = (ST : Int) := wrapc_nat (by omega) (by omega)
      go_wp2_with fail
      go_region_held3 (fun W => W.cell? ⟨pb, po + i, none⟩ = some (.int .i64 (p : Int)))
        (first | exact HPC.out _ HBd.out | exact HPC.out _ HG.out.below | exact HPC.out _ hbw4 | exact HPC.out _ (hbw4.setCell (Nat.le_refl _) _))
        (first
          | (go_at_call 28; refine HTR.out.mono ?_; rintro e w3 ⟨rfl, hw3⟩; rw [hw3]; clear hw3)
          | (go_at_call 29; refine HPT.out.mono ?_; rintro e w4 ⟨rfl, hrow4, hb4⟩; have HROW4 := Hid.mk' hrow4; have HB4 := Hid.mk' hb4; have hbw4 := below_chain HG.out.below hb4; obtain ⟨x4, hx4⟩ := (HG.out.later hb4).outer i h1; have hf4 := (HG.out.later hb4).ofz i h1; clear hrow4 hb4))
      go_wp2_with fail
      exact ⟨⟨i + 1, _, h1, by go_num, HG.out.push h1 HB4.out (Nat.le_refl _) HROW4.out⟩, by simp [intOf]; omega⟩
    · obtain rfl : n = i := by omega
      have HCAT := Hid.mk' (ConcatF_some w.heap.size n C rb fF wr h0 hC0 (fun i hi => ⟨HG.out.made i hi, HG.out.rows i hi⟩) h16 hC16)
      have HLF : Hid (∀ p, p ∈ flatF C fF n → 0 < p.2 ∧ p.2 ≤ 1048576) := fun p hp => by
        obtain ⟨i, k, hi, hk, rfl⟩ := flatF_mem hp
        have := HFB.out i k hi hk
        exact ⟨this.1, this.2.1⟩
      have HFL : Hid ((flatF C fF n).length ≤ 1000) := by
        show _ ≤ _
        rw [flatF_length]
        exact Nat.le_trans (Nat.mul_le_mul h16 hC16) (by decide)
      go_wp2_with fail
      refine HCAT.out.mono ?_
      rintro e w5 ⟨v5, rfl, hown5, hb5⟩
      have hls := leastSum_any v5 (flatF C fF n) 4096 w5 (fcAt_row hown5) HLF.out HFL.out (by omega) (by omega)
      obtain ⟨a5, c5, hv5, _⟩ := rowF_shape hown5
      have HB5 := Hid.mk' (below_chain HG.out.below hb5)
      have HG5 := Hid.mk' (HG.out.later hb5)
      rw [← HLL.out] at hls
      rw [hv5] at hls ⊢
      generalize (flatF C fF n).length = fl at *
      clear hown5 hb5 hv5 HCAT
      go_wp2_with fail
      refine hls.mono ?_
      clear hls
      rintro e w6 ⟨hok6, hbig6, hb6⟩
      have HB6 := Hid.mk' (below_chain HB5.out hb6)
      have HG6 := Hid.mk' (HG5.out.later hb6)
      clear hb6
      by_cases hfit : L ≤ 4096
      · have e6 := hok6 hfit
        subst e6
        have HFIT := Hid.mk' hfit
        clear hok6 hbig6
        go_wp2_with (at_make; go_must (refine wpList_make_full _ rfl _ _ _ rfl w6.heap.size 26 i1 _ 1 Tryz.underlying22 HINI.out.1 HINI.out.2.1 HINI.out.2.2.1 .i64 .i64 _ _ n rfl rfl rfl rfl (by rw [HINI.out.2.2.2]; omega) (by unfold maxLen; omega) (Nat.le_refl _) ?_; intro w7 hown7 hgrow7; have HF7 := Hid.mk' (rowIs_made hown7 (made_one (.slice none 0 0) rfl n)); have HB7 := Hid.mk' (made_below hgrow7); clear hown7 hgrow7))
        go_loopw [73] (fun t wr => ∃ (j : Nat) (rb2 : Nat → Nat), j ≤ n ∧ t = .int .i64 j ∧ Hid (FG w6 wr w6.heap.size n C C j rb2 (fun i k => .int .i64 (wholeP L (fF i k) : Int)))) (fun t _ => n - (intOf t).toNat)
        case atStart => exact ⟨0, fun _ => 0, Nat.zero_le _, rfl, fg_start HF7.out HB7.out (Nat.le_refl _) _ _⟩
        case round =>
          clear HF7 HB7
          obtain ⟨j, rb2, hj, rfl, HH⟩ := hrel
          rcases Nat.lt_or_ge j n with h2 | h2
          · have hjI : (j : Int) < (n : Int) := by omega
            have hj0 : (0 : Int) ≤ (j : Int) := by omega
            have HGj := Hid.mk' (HG6.out.later HH.out.below)
            have hcj := HGj.out.made j h2
            have hof := ofSum_any (rb j) C C L (fF j) wr (HGj.out.rows j h2) hC16 (fun k hk => HFB.out j k h2 hk) HFIT.out
            generalize rb j = r at hcj hof
            go_wp2_with fail
            refine hof.mono ?_
            clear hof
            rintro e w8 ⟨rfl, hrow8, hb8⟩
            have HROW8 := Hid.mk' hrow8
            have HB8 := Hid.mk' hb8
            obtain ⟨x8, hx8⟩ := (HH.out.later hb8).outer j h2
            have hf8 := (HH.out.later hb8).ofz j h2
            clear hrow8 hb8
            go_wp2_with fail
            exact ⟨⟨j + 1, _, h2, by go_num, HH.out.push h2 HB8.out (Nat.le_refl _) HROW8.out⟩, by simp [intOf]; omega⟩
          · obtain rfl : n = j := by omega
            go_wp2_with fail
            go_ret2
            refine ⟨fun _ => ⟨w6.heap.size, rb2, rfl, ?_⟩, fun h => ?_, below_chain HB6.out HH.out.below⟩
            · have e9 : (fun i k => Value.int .i64 (outZ n z n C zs i k)) = fun i k => .int .i64 (wholeP L (fF i k) : Int) := by funext i k; rw [HOZ.out]
              rw [e9]
              exact ⟨below_chain HB6.out HH.out.below, HB6.out.size, HH.out.outer, HH.out.made, HH.out.ofz, HH.out.rne, HH.out.rows⟩
            · have := HFIT.out; omega
      · have e6 := hbig6 (by omega)
        subst e6
        have HFIT := Hid.mk' hfit
        have cB6 := (HE.out.below HB6.out).c1
        clear hok6 hbig6 hfit
        go_wp2_with fail
        go_region
        all_goals
          go_wp2_with fail
          go_ret2
          exact ⟨fun h => absurd h HFIT.out, fun _ => rfl, HB6.out.drew⟩
end Go.Proofs.YtnihclkaaglnjaaGreatDoor
