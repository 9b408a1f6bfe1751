/- arith.partAt and arith.Decode. -/
import Derived.Test.YtncgpldfenkiiaaGreatDoorNatBits
import Derived.Test.YtncgpldfenkiiaaGreatDoorDecM
import Derived.Test.YtncgpldfenkiiaaGreatDoorWordsD
import Derived.Test.YtncgpldfenkiiaaGreatDoorCutP
import Derived.Test.YtncgpldfenkiiaaGreatDoorFills
namespace Go.Proofs.YtncgpldfenkiiaaGreatDoor
open Go.RowKit

set_option maxRecDepth 100000 in
set_option maxHeartbeats 1000000 in
theorem partAt_any (b o cap n S a d s : Nat) (z : Nat → Int) (w : World) (hrw : RowAt w b o n z) (hz : OkW z n) (hn : n ≤ 1000) (hs : SymIs z n S a d s) (hp : a * S / d ≤ 4096) :
    Calls Tryz.prog 28 #[.slice (some ⟨b, o, none⟩) n cap, .int .i64 ((a * S / d : Nat) : Int)] w fun e w' => e = .returned (.tuple #[.int .i64 (s : Int), .int .i64 ((a * S / d - (sumN z s).toNat : Nat) : Int)]) ∧ w' = w := by
  have HRW := Hid.mk' hrw
  have HZ := Hid.mk' hz
  have HS := Hid.mk' hs
  obtain ⟨p, hpe⟩ : ∃ p, p = a * S / d := ⟨_, rfl⟩
  rw [← hpe] at hp ⊢
  have HPE := Hid.mk' hpe
  clear hrw hz hpe hs
  go_enter Tryz.func28, Tryz.ntmps28
  go_wp2_with fail
  go_loopw [1, 4] (fun q i wr => ∃ k : Nat, k ≤ s ∧ q = .int .i64 ((p : Int) - sumN z k) ∧ i = .int .i64 k ∧ wr = w) (fun _ i _ => s - (intOf i).toNat)
  case atStart => exact ⟨0, Nat.zero_le _, by show _ = Value.int _ ((p : Int) - 0); rw [Int.sub_zero], rfl, rfl⟩
  case round =>
    obtain ⟨k, hk, rfl, rfl, rfl⟩ := hrel
    have hsn := HS.out.lt
    have hc := HRW.out k (by omega)
    have hkn : (k : Int) < (n : Int) := by omega
    have hk0 : (0 : Int) ≤ (k : Int) := by omega
    have hz1 := HZ.out.lt (i := k) (by omega)
    have hp1 := HZ.out.part (k := k) (by omega)
    have HE : Hid (sumN z (k + 1) = sumN z k + z k) := rfl
    rcases Nat.lt_or_ge k s with h1 | h1
    · have hno := HS.out.no k h1
      rw [HE.out, ← HPE.out] at hno
      obtain ⟨x, hx⟩ : ∃ x, x = z k := ⟨_, rfl⟩
      obtain ⟨y, hy⟩ : ∃ y, y = sumN z k := ⟨_, rfl⟩
      rw [← hx] at hc hz1 hno HE
      rw [← hy] at hp1 hno HE ⊢
      clear hx hy
      have hge : x ≤ (p : Int) - y := by omega
      go_wp2_with fail
      exact ⟨⟨k + 1, h1, by rw [HE.out]; go_num, by go_num, trivial⟩, by simp [intOf]; omega⟩
    · obtain rfl : s = k := by omega
      have hhi := HS.out.hi
      have hlo := HS.out.lo
      rw [HE.out, ← HPE.out] at hhi
      rw [← HPE.out] at hlo
      have HR : Hid ((p : Int) - sumN z s = ((p - (sumN z s).toNat : Nat) : Int)) := by show _ = _; omega
      obtain ⟨x, hx⟩ : ∃ x, x = z s := ⟨_, rfl⟩
      obtain ⟨y, hy⟩ : ∃ y, y = sumN z s := ⟨_, rfl⟩
      rw [← hx] at hc hz1 hhi
      rw [← hy] at hp1 hhi hlo ⊢
      have HY := Hid.mk' hy
      clear hx hy HE
      have hge : ¬ x ≤ (p : Int) - y := by omega
      go_wp2_with fail
      go_ret2
      exact ⟨by rw [HY.out, ← HR.out, ← HY.out]; rfl, rfl⟩

/-- The symbols of a number. -/
def symK (z : Nat → Int) (n S a0 d0 k : Nat) : Nat := symOf z n S (decAD z n S a0 d0 k).1 (decAD z n S a0 d0 k).2
theorem dec_room {L k K : Nat} (h : L + 12 * k < 64 * K) : 2 ^ L * 4096 ^ k < 18446744073709551616 ^ K := by
  have e : (4096 : Nat) ^ k = 2 ^ (12 * k) := by rw [show (4096 : Nat) = 2 ^ 12 by decide, ← Nat.pow_mul]
  rw [e, ← Nat.pow_add, word_two]
  exact Nat.pow_lt_pow_right (by decide) h
theorem part_sum {A S D B : Nat} (hD : 0 < D) (h : B * D ≤ A * S) : A * S % D + D * (A * S / D - B) = A * S - B * D := by
  have h1 := Nat.div_add_mod (A * S) D
  have h2 : B ≤ A * S / D := (Nat.le_div_iff_mul_le hD).2 h
  rw [Nat.mul_sub, Nat.mul_comm D B]
  have h3 : D * B ≤ D * (A * S / D) := Nat.mul_le_mul_left _ h2
  rw [Nat.mul_comm D B] at h3
  omega
set_option maxRecDepth 100000 in
set_option maxHeartbeats 4000000 in
theorem Decode_ok (a : Nat → Addr) (b o cap n S N : Nat) (t : ByteArray) (z : Nat → Int) (w : World) (hE : Errs w a) (hrw : RowAt w b o n z) (hok : weightsErr z n = 0) (hS : sumN z n = (S : Int)) (hN : N ≤ 200) (ht : t.size ≤ 4000) (hbits : bitB t = true) :
    Calls Tryz.prog 8 #[.slice (some ⟨b, o, none⟩) n cap, .string t, .int .i64 (N : Int)] w fun e w' => ∃ v, e = .returned (.tuple #[v, .nilIface]) ∧ NumsAt w' v N (fun k => (symK z n S (valT t t.size) (2 ^ t.size) k : Int)) ∧ Below w.heap.size w w' := by
  have hn16 : n ≤ 16 := by
    unfold weightsErr at hok
    by_cases h6 : 16 < n
    · rw [if_pos h6] at hok; simp at hok
    · omega
  have hz : OkW z n := by
    unfold weightsErr at hok
    rw [if_neg (by omega)] at hok
    exact listErr_ok hok
  have hw : NumsAt w (.slice (some ⟨b, o, none⟩) n cap) n z := Or.inr ⟨b, o, cap, rfl, hz.posN, hrw⟩
  have hV := Valid_weights a _ n z w hE hw (by omega)
  rw [hok, errV_zero] at hV
  have HTR := Hid.mk' (fun (W : World) => trim_bits t W (by omega) hbits)
  have HTO : Hid (∀ W, Below w.heap.size w W → Calls Tryz.prog 22 #[.slice (some ⟨b, o, none⟩) n cap] W fun e w' => e = .returned (.int .i64 (S : Int)) ∧ w' = W) := fun W hb => by
    have h1 := Total_nums b o cap n z W (hrw.later hb) (fun k hk => by have := hz.part hk; omega) (fun i hi => by have := hz.lt hi; omega) (by omega)
    rw [hS] at h1
    exact h1
  have HNB := Hid.mk' (fun (W : World) => NatOfBits_any t W ht (fun i hi => bit_at hi hbits))
  have HN1 := Hid.mk' (fun (W : World) => NatOf_any 1 W (by decide) (by decide))
  have HSF := Hid.mk' (fun (W : World) (u : Value) (hu : NatAt W u 1) => Shift_any u 1 t.size 1 W hu (by decide) (by decide) (by decide) (by omega))
  have HS4 : Hid (0 < S ∧ S ≤ 4096) := by have h1 := hz.pos; have h2 := hz.le; rw [hS] at h1 h2; exact ⟨by omega, by omega⟩
  have HDOK := Hid.mk' (dec_ok (a0 := valT t t.size) (d0 := 2 ^ t.size) hz hS (Nat.pow_pos (by decide)) (valT_lt t.size))
  have HRW := Hid.mk' (fun (W : World) (hb : Below w.heap.size w W) => hrw.later hb)
  have HZ := Hid.mk' hz
  obtain ⟨i0, hii, hz0, hz1, hz2⟩ := info_parts Tryz.infoInt
  have HINF : Hid (Tryz.prog.info? 3 = some i0 ∧ i0.zero = some (.int .i64 0) ∧ i0.size = 1 ∧ i0.bytes = 8) := ⟨hii, hz0, hz1, hz2⟩
  have hsw : IntKind.u64.wrap (S : Int) = (S : Int) := by have := HS4.out; rw [IntKind.wrap_u64]; exact Int.emod_eq_of_lt (by omega) (by omega)
  have hN1 : ¬ (N : Int) < 0 := by omega
  have hN2 : ¬ (200 : Int) < (N : Int) := by omega
  have htI : ¬ (4000 : Int) < (t.size : Int) := by omega
  clear hii hz0 hz1 hz2 hrw hz hE hw hok hbits
  go_enter Tryz.func8, Tryz.ntmps8
  go_wp2_with fail
  refine hV.mono ?_
  clear hV
  rintro e w1 ⟨rfl, hw1⟩
  rw [hw1]
  clear hw1 w1
  go_wp2_with fail
  refine (HTR.out _).mono ?_
  rintro e w1 ⟨rfl, hb1⟩
  have HB := Hid.mk' hb1
  clear hb1
  go_wp2_with fail
  refine (HTO.out _ HB.out).mono ?_
  rintro e w2 ⟨rfl, hw2⟩
  rw [hw2]
  clear hw2 w2
  go_wp2_with fail
  refine (HNB.out _).mono ?_
  rintro e w3 ⟨v3, rfl, hv3, hb3⟩
  have HB := Hid.mk' (below_chain HB.out hb3)
  have HA := Hid.mk' hv3
  obtain ⟨a3, l3, c3, rfl⟩ := hv3.isSl
  clear hv3 hb3
  go_wp2_with fail
  refine (HN1.out _).mono ?_
  rintro e w4 ⟨v4, rfl, hv4, hb4⟩
  have HB := Hid.mk' (below_chain HB.out hb4)
  have HA := Hid.mk' (HA.out.later hb4)
  have HV4 := Hid.mk' hv4
  clear hv4 hb4
  go_wp2_with fail
  refine (HSF.out _ _ HV4.out).mono ?_
  rintro e w5 ⟨v5, rfl, hv5, hb5⟩
  rw [Nat.one_mul] at hv5
  have HB := Hid.mk' (below_chain HB.out hb5)
  have HA := Hid.mk' (HA.out.later hb5)
  have HD := Hid.mk' hv5
  obtain ⟨a5, l5, c5, rfl⟩ := hv5.isSl
  clear hv5 hb5 HV4 HTR HNB HN1 HSF
  go_wp2_with (at_make; go_must (refine wpList_make_full _ rfl _ _ _ rfl w5.heap.size 3 i0 _ 1 Tryz.underlying22 HINF.out.1 HINF.out.2.1 HINF.out.2.2.1 .i64 .i64 _ _ N rfl rfl rfl rfl (by rw [HINF.out.2.2.2]; omega) (by unfold maxLen; omega) (Nat.le_refl _) ?_; intro w6 hown hgrow; have HW := Hid.mk' (fills_made hown (made_zero N) hgrow); clear hown hgrow))
  have HA := Hid.mk' (HA.out.later HW.out.below)
  have HD := Hid.mk' (HD.out.later HW.out.below)
  generalize hg5 : w5.heap.size = g at HW ⊢
  clear hg5
  go_loopw [10, 11, 53] (fun x y i wr => ∃ (k : Nat) (x1 x2 : Option Addr) (l1 c1 l2 c2 : Nat) (f : Nat → Int), k ≤ N ∧ x = .slice x1 l1 c1 ∧ y = .slice x2 l2 c2 ∧ i = .int .i64 k ∧ Hid (NatAt wr (.slice x1 l1 c1) (decAD z n S (valT t t.size) (2 ^ t.size) k).1) ∧ Hid (NatAt wr (.slice x2 l2 c2) (decAD z n S (valT t t.size) (2 ^ t.size) k).2) ∧ Hid (Fills w5 wr g N f) ∧ Hid (∀ j, j < k → f j = (symK z n S (valT t t.size) (2 ^ t.size) j : Int))) (fun _ _ i _ => N - (intOf i).toNat)
  case atStart => exact ⟨0, a3, a5, l3, c3, l5, c5, _, Nat.zero_le _, rfl, rfl, rfl, HA.out, HD.out, HW.out, fun j hj => by omega⟩
  case round =>
    clear HA HD HW
    obtain ⟨k, x1, x2, l1, c1, l2, c2, f, hk, rfl, rfl, rfl, HA, HD, HF, HSY⟩ := hrel
    rcases Nat.lt_or_ge k N with h1 | h1
    · have hkN : (k : Int) < (N : Int) := by omega
      have hk0 : (0 : Int) ≤ (k : Int) := by omega
      obtain ⟨d1, d2, d3⟩ := HDOK.out k
      have HSYM := Hid.mk' (sym_is HZ.out hS d2 d1)
      have HNX : Hid ((decAD z n S (valT t t.size) (2 ^ t.size) (k + 1)).1 = (decAD z n S (valT t t.size) (2 ^ t.size) k).1 * S - (sumN z (symK z n S (valT t t.size) (2 ^ t.size) k)).toNat * (decAD z n S (valT t t.size) (2 ^ t.size) k).2 ∧ (decAD z n S (valT t t.size) (2 ^ t.size) (k + 1)).2 = (decAD z n S (valT t t.size) (2 ^ t.size) k).2 * (z (symK z n S (valT t t.size) (2 ^ t.size) k)).toNat) := ⟨rfl, rfl⟩
      change Hid (SymIs z n S _ _ (symK z n S (valT t t.size) (2 ^ t.size) k)) at HSYM
      have HSYN : Hid (∀ j, j < k + 1 → (if j = k then ((symK z n S (valT t t.size) (2 ^ t.size) k : Nat) : Int) else f j) = (symK z n S (valT t t.size) (2 ^ t.size) j : Int)) := fun j hj => by
        by_cases hjk : j = k
        · rw [if_pos hjk, hjk]
        · rw [if_neg hjk]; exact HSY.out j (by omega)
      have hroom := dec_room (L := t.size) (k := k + 1) (K := 110) (by omega)
      have hroom0 := dec_room (L := t.size) (k := k) (K := 110) (by omega)
      rw [Nat.pow_succ, ← Nat.mul_assoc] at hroom
      generalize (decAD z n S (valT t t.size) (2 ^ t.size) k).1 = A at *
      generalize (decAD z n S (valT t t.size) (2 ^ t.size) k).2 = D at *
      generalize symK z n S (valT t t.size) (2 ^ t.size) k = sy at *
      generalize 2 ^ t.size * 4096 ^ k = R at *
      have hs4 := HS4.out
      have hAS : A * S < D * S := Nat.mul_lt_mul_of_pos_right d1 hs4.1
      have hDS : D * S ≤ R * 4096 := Nat.mul_le_mul d3 hs4.2
      have hpl : A * S / D ≤ 4096 := by
        have : A * S / D < S := (Nat.div_lt_iff_lt_mul d2).2 (by rw [Nat.mul_comm S D]; exact hAS)
        omega
      have HTI := Hid.mk' (fun (W : World) (hb : Below wr.heap.size wr W) => Times_all (.slice x1 l1 c1) A S 110 W (HA.out.later hb) (by omega) (by omega) (by decide))
      have HOV := Hid.mk' (fun (W : World) (u : Value) (hb : Below wr.heap.size wr W) (hu : NatAt W u (A * S)) => Over_any u (.slice x2 l2 c2) (A * S) D 110 W hu (HD.out.later hb) d2 (by omega) (by omega) (by decide))
      have HPA := Hid.mk' (fun (W : World) (hb : Below w.heap.size w W) => partAt_any b o cap n S A D sy z W (HRW.out W hb) HZ.out (by omega) HSYM.out hpl)
      have hsn := HSYM.out.lt
      have hzs := HZ.out.lt hsn
      have hzp := HZ.out.part (k := sy) (by omega)
      obtain ⟨Zy, hZy⟩ : ∃ Zy : Nat, z sy = (Zy : Int) := ⟨(z sy).toNat, by omega⟩
      obtain ⟨By, hBy⟩ : ∃ By : Nat, sumN z sy = (By : Int) := ⟨(sumN z sy).toNat, by omega⟩
      have hle := HSYM.out.le
      have HCELL : Hid (∀ W, Below w.heap.size w W → W.cell? ⟨b, o + sy, none⟩ = some (.int .i64 (Zy : Int))) := fun W hb => by have := HRW.out W hb sy hsn; rw [hZy] at this; exact this
      rw [hZy, hBy, Int.toNat_natCast, Int.toNat_natCast] at HNX
      rw [hBy, Int.toNat_natCast] at HPA hle
      rw [hZy] at hzs
      rw [hBy] at hzp
      have HSUM := Hid.mk' (part_sum d2 hle)
      have HLE := Hid.mk' hle
      have hD2R : D * Zy ≤ R * 4096 := Nat.mul_le_mul d3 (by omega)
      clear hZy hBy hle
      have hmd : A * S % D < D := Nat.mod_lt _ d2
      have hge : By ≤ A * S / D := (Nat.le_div_iff_mul_le d2).2 HLE.out
      generalize A * S / D = pl at *
      generalize A * S % D = md at *
      obtain ⟨it, hit⟩ : ∃ it, it = pl - By := ⟨_, rfl⟩
      rw [← hit] at HPA HSUM
      have hit4 : it ≤ 4096 := by omega
      have hDit : D * it ≤ A * S := by have := HSUM.out; omega
      have HTA := Hid.mk' (fun (W : World) (hu : NatAt W (.slice x2 l2 c2) D) => Times_all (.slice x2 l2 c2) D it 110 W hu (by omega) (by omega) (by decide))
      have HTB := Hid.mk' (fun (W : World) (hu : NatAt W (.slice x2 l2 c2) D) => Times_all (.slice x2 l2 c2) D Zy 110 W hu (by omega) (by omega) (by decide))
      have HPL := Hid.mk' (fun (W : World) (u v : Value) (hu : NatAt W u md) (hv : NatAt W v (D * it)) => Plus_any u v md (D * it) 110 W hu hv (by omega) (by omega) (by decide))
      have hitw : IntKind.u64.wrap (it : Int) = (it : Int) := by rw [IntKind.wrap_u64]; exact Int.emod_eq_of_lt (by omega) (by omega)
      have hZyw : IntKind.u64.wrap (Zy : Int) = (Zy : Int) := by rw [IntKind.wrap_u64]; exact Int.emod_eq_of_lt (by omega) (by omega)
      have hsyI : (sy : Int) < (n : Int) := by omega
      have hsy0 : (0 : Int) ≤ (sy : Int) := by omega
      have HPL0 : Hid (pl ≤ 4096) := hpl
      have HR9 := Hid.mk' (And.intro HNX.out.1 HNX.out.2)
      clear hroom hroom0 hAS hDS hD2R hDit hit hge hmd d1 d3 hs4
      go_wp2_with fail
      refine (HTI.out _ (Below.refl _ _)).mono ?_
      rintro e w7 ⟨v7, rfl, hv7, hb7⟩
      have HV7 := Hid.mk' hv7
      have HC := Hid.mk' hb7
      clear hv7 hb7
      go_wp2_with fail
      refine (HOV.out _ _ HC.out HV7.out).mono ?_
      rintro e w8 ⟨q8, r8, f8, rfl, hf1, hf2, hb8⟩
      have hf : f8 = true := by
        cases f8 with
        | true => rfl
        | false => have := hf2 rfl; omega
      subst hf
      obtain ⟨hq8, _, hr8⟩ := hf1 rfl
      subst hq8
      have HC := Hid.mk' (below_chain HC.out hb8)
      have HR8 := Hid.mk' hr8
      obtain ⟨xr, lr, cr, rfl⟩ := hr8.isSl
      clear hf1 hf2 hr8 hb8 HV7
      have hplI : (0 : Int) ≤ (q8 : Int) ∧ (q8 : Int) ≤ 4096 := by have := HPL0.out; omega
      obtain ⟨hp1, hp2⟩ := hplI
      have HBW := Hid.mk' (below_chain (below_chain HB.out HF.out.below) HC.out)
      go_wp2_with fail
      refine (HPA.out _ HBW.out).mono ?_
      rintro e w9 ⟨rfl, hw9⟩
      rw [hw9]
      clear hw9 w9
      have hF8 : Fills w5 w8 g N f := ⟨HF.out.row.later HC.out, fun i hi => by rw [HC.out.frozen (cell_lt (HF.out.row i hi))]; exact HF.out.fz i hi, below_chain HF.out.below HC.out, HF.out.hg⟩
      have y0 := hF8.row k h1
      rw [Nat.zero_add] at y0
      have y1 := hF8.fz k h1
      rw [Nat.zero_add] at y1
      have HF9 := Hid.mk' (hF8.set h1 (sy : Int) (f' := fun i => if i = k then (sy : Int) else f i) (fun i hi => rfl))
      have HD9 := Hid.mk' ((HD.out.later HC.out).put (y := .int .i64 (sy : Int)) y0)
      have HR9b := Hid.mk' (HR8.out.put (y := .int .i64 (sy : Int)) y0)
      have HB9 : Hid (Below w.heap.size w (w8.setCell ⟨g, k, none⟩ (.int .i64 (sy : Int)))) := below_chain HB.out HF9.out.below
      generalize hW9 : w8.setCell ⟨g, k, none⟩ (.int .i64 (sy : Int)) = W9 at *
      clear hF8
      have hcur0 : Below W9.heap.size W9 W9 := Below.refl _ _
      have hcur : Below W9.heap.size W9 W9.drew := (Below.refl _ _).drew
      have HKS : Hid (∀ W, Below W9.heap.size W9 W → W.cell? ⟨b, o + sy, none⟩ = some (.int .i64 (Zy : Int))) := fun W hb => HCELL.out W (below_chain HB9.out hb)
      go_wp2_with fail
      clear hW9 y0 y1
      go_region_held3 (fun W => W.cell? ⟨b, o + sy, none⟩ = some (.int .i64 (Zy : Int)))
        (first | exact HKS.out _ hcur0 | exact HKS.out _ hcur | exact HKS.out _ hbw1 | exact HKS.out _ hbw2 | exact HKS.out _ hbw3)
        (first
          | (go_at_call 26; have hq2 := hbw2; clear hq2; refine (HTB.out _ (HD9.out.later hbw2)).mono ?_; rintro e w12 ⟨r12, rfl, hr12, hb12⟩; have hbw3 := below_chain hbw2 hb12; have HX3 := Hid.mk' hr12; have HX2 := Hid.mk' (HX2.out.later hb12); obtain ⟨x12, l12, c12, rfl⟩ := hr12.isSl; clear hr12 hb12)
          | (go_at_call 29; refine (HPL.out _ _ _ (HR9b.out.later hbw1) HX1.out).mono ?_; rintro e w11 ⟨r11, rfl, hr11, hb11⟩; have hbw2 := below_chain hbw1 hb11; have HX2 := Hid.mk' hr11; obtain ⟨x11, l11, c11, rfl⟩ := hr11.isSl; clear hr11 hb11)
          | (go_at_call 26; refine (HTA.out _ (HD9.out.later hcur)).mono ?_; rintro e w10 ⟨r10, rfl, hr10, hb10⟩; have hbw1 := below_chain hcur hb10; have HX1 := Hid.mk' hr10; clear hr10 hb10))
      go_wp2_with fail
      have hfin1 := HX2.out
      rw [HSUM.out, ← HR9.out.1] at hfin1
      have hfin2 := HX3.out
      rw [← HR9.out.2] at hfin2
      refine ⟨⟨k + 1, _, _, _, _, _, _, _, h1, rfl, rfl, by go_num, hfin1, hfin2, ⟨HF9.out.row.later hbw3, fun i hi => ?_, below_chain HF9.out.below hbw3, HF9.out.hg⟩, HSYN.out⟩, by simp [intOf]; omega⟩
      rw [hbw3.frozen (cell_lt (HF9.out.row i hi))]; exact HF9.out.fz i hi
    · obtain rfl : k = N := by omega
      have HFIN : Hid (NumsAt wr (.slice (some ⟨g, 0, none⟩) k k) k (fun j => (symK z n S (valT t t.size) (2 ^ t.size) j : Int))) := by
        rcases Nat.eq_zero_or_pos k with h0 | h0
        · subst h0; exact Or.inl ⟨_, _, rfl, rfl⟩
        · refine Or.inr ⟨g, 0, k, rfl, h0, fun i hi => ?_⟩
          rw [HF.out.row i hi, HSY.out i hi]
      have HBF := Hid.mk' (below_chain HB.out HF.out.below)
      go_wp2_with fail
      go_ret2
      exact ⟨_, rfl, HFIN.out, HBF.out⟩
end Go.Proofs.YtncgpldfenkiiaaGreatDoor
