/- The document's words of numbers. -/
import Derived.Test.YtjmjedpeibnnnaaDoorEliasMath
import Derived.Test.YtjmjedpeibnnnaaDoorDecimal
import Derived.Test.YtjmjedpeibnnnaaDoorEliasP
import Derived.Deep.LoopGhost
namespace Go.Proofs.YtjmjedpeibnnnaaDoor
open Go.RowKit

theorem Decimal_bit (n : Nat) (w : World) (hn : n < 2) : Calls Tryd.prog 103 #[.int .i64 (n : Int)] w fun e w' => e = .returned (.string (txt [UInt8.ofNat (48 + n)])) ∧ Below w.heap.size w w' := by
  have h := Decimal_small n w (by omega)
  have e : (⟨(Lib.decDigits n).toArray⟩ : ByteArray) = txt [UInt8.ofNat (48 + n)] := by
    rw [Lib.decDigits, dif_pos (by omega)]
    rfl
  rw [e] at h
  exact h
set_option maxRecDepth 100000 in
set_option maxHeartbeats 1000000 in
theorem Binary_any (n : Nat) : ∀ (w : World), 1 ≤ n → n ≤ 1000000000 →
    Calls Tryd.prog 65 #[.int .i64 (n : Int)] w fun e w' => e = .returned (.string (txt (binL n))) ∧ Below w.heap.size w w' := by
  induction n using Nat.strongRecOn with
  | _ n ih =>
    intro w h0 h1
    by_cases h2 : n < 2
    · obtain rfl : n = 1 := by omega
      have hD := Decimal_bit 1 w (by decide)
      have HE : Hid (txt [UInt8.ofNat (48 + 1)] = txt (binL 1)) := by show _ = _; congr 1
      rw [HE.out] at hD
      generalize txt (binL 1) = tx at *
      clear ih
      go_enter Tryd.func65, Tryd.ntmps65
      go_wp2_with fail
      refine hD.mono ?_
      clear hD
      rintro e w1 ⟨rfl, hb1⟩
      go_wp2_with fail
      go_ret
      exact ⟨rfl, hb1⟩
    · have hI := ih (n / 2) (by omega) w (by omega) (by omega)
      have HD := Hid.mk' (fun (W : World) => Decimal_bit (n % 2) W (by omega))
      have HJ : Hid (txt (binL (n / 2)) ++ txt [UInt8.ofNat (48 + n % 2)] = txt (binL n)) := by show _ = _; rw [txt_join, ← binL_half (by omega)]
      have hs1 : (txt (binL (n / 2))).size ≤ 30 := by rw [txt_size, binL_length]; exact binL_small (by omega) (by omega)
      have hs2 : (txt [UInt8.ofNat (48 + n % 2)]).size = 1 := rfl
      have hq : wrap64 ((n : Int) / 2) = ((n / 2 : Nat) : Int) := by rw [w64 _ (by omega)]; omega
      have hr : wrap64 ((n : Int) % 2) = ((n % 2 : Nat) : Int) := by rw [w64 _ (by omega)]; omega
      have h2I : ¬ (n : Int) < 2 := by omega
      generalize txt (binL (n / 2)) = ta at *
      generalize txt [UInt8.ofNat (48 + n % 2)] = tb at *
      rw [show ((n / 2 : Nat) : Int) = (n : Int) / 2 by omega] at hI
      rw [show ((n % 2 : Nat) : Int) = (n : Int) % 2 by omega] at HD
      clear ih hq hr
      go_enter Tryd.func65, Tryd.ntmps65
      go_wp2_with fail
      refine hI.mono ?_
      clear hI
      rintro e w1 ⟨rfl, hb1⟩
      have HB1 := Hid.mk' hb1
      clear hb1
      go_wp2_with fail
      refine (HD.out _).mono ?_
      rintro e w2 ⟨rfl, hb2⟩
      have HB2 := Hid.mk' (below_chain HB1.out hb2)
      clear hb2
      go_wp2_with fail
      go_ret
      exact ⟨by rw [← HJ.out]; rfl, HB2.out⟩
set_option maxRecDepth 100000 in
set_option maxHeartbeats 1000000 in
theorem GammaOf_any (n : Nat) (w : World) (h0 : 1 ≤ n) (h1 : n ≤ 1000000000) :
    Calls Tryd.prog 30 #[.int .i64 (n : Int)] w fun e w' => e = .returned (.string (txt (gamL n))) ∧ Below w.heap.size w w' := by
  have hf := Binary_any n w h0 h1
  have hn30 := binL_small h0 h1
  have hnp := nd_pos n
  have hsz : (txt (binL n)).size = nd n := by rw [txt_size, binL_length]
  have HG : Hid (gamL n = List.replicate (nd n - 1) 48 ++ binL n) := rfl
  have HL := Hid.mk' (binL_length n)
  obtain ⟨k, hk⟩ : ∃ k, k = nd n := ⟨_, rfl⟩
  rw [← hk] at hn30 hnp hsz HG HL
  obtain ⟨tx, htx⟩ : ∃ tx, tx = txt (binL n) := ⟨_, rfl⟩
  rw [← htx] at hf hsz
  have HTX := Hid.mk' htx
  clear hk htx
  go_enter Tryd.func30, Tryd.ntmps30
  go_wp2_with fail
  refine hf.mono ?_
  clear hf
  rintro e w1 ⟨rfl, hb1⟩
  have HB1 := Hid.mk' hb1
  clear hb1
  go_wp2_with fail
  go_loopw [4, 5] (fun s i wr => ∃ j : Nat, 1 ≤ j ∧ j ≤ k ∧ s = .string (txt (List.replicate (j - 1) 48 ++ binL n)) ∧ i = .int .i64 (j : Int) ∧ wr = w1) (fun _ i _ => k - (intOf i).toNat)
  case atStart => exact ⟨1, Nat.le_refl _, hnp, by rw [HTX.out]; rfl, rfl, rfl⟩
  case round =>
    obtain ⟨j, hj1, hjk, rfl, rfl, rfl⟩ := hrel
    rcases Nat.lt_or_ge j k with h3 | h3
    · have h3I : (j : Int) < (k : Int) := by omega
      have HJ : Hid ((⟨#[48]⟩ : ByteArray) ++ txt (List.replicate (j - 1) 48 ++ binL n) = txt (List.replicate (j + 1 - 1) 48 ++ binL n)) := by
        show _ = _
        rw [show (⟨#[48]⟩ : ByteArray) = txt [48] from rfl, txt_join, show j + 1 - 1 = (j - 1) + 1 by omega, List.replicate_succ]
        rfl
      have hs2 : (txt (List.replicate (j - 1) 48 ++ binL n)).size = j - 1 + k := by rw [txt_size, List.length_append, List.length_replicate, HL.out]
      generalize txt (List.replicate (j - 1) 48 ++ binL n) = ta at *
      go_wp2_with fail
      exact ⟨⟨j + 1, by omega, h3, by rw [← HJ.out], by go_num, trivial⟩, by simp [intOf]; omega⟩
    · obtain rfl : k = j := by omega
      go_wp2_with fail
      go_ret
      exact ⟨by rw [HG.out]; rfl, HB1.out⟩
set_option maxRecDepth 100000 in
theorem DeltaOf_any (n : Nat) (w : World) (h0 : 1 ≤ n) (h1 : n ≤ 1000000000) :
    Calls Tryd.prog 31 #[.int .i64 (n : Int)] w fun e w' => e = .returned (.string (txt (delL n))) ∧ Below w.heap.size w w' := by
  have hf := Binary_any n w h0 h1
  have hn30 := binL_small h0 h1
  have hnp := nd_pos n
  have HG := Hid.mk' (fun (W : World) => GammaOf_any (nd n) W hnp (by omega))
  have hsz : (txt (binL n)).size = nd n := by rw [txt_size, binL_length]
  have HT : Hid ((txt (binL n)).extract 1 (nd n) = txt (bitsL n (nd n - 1))) := by
    show _ = _
    have := txt_tail (binL n)
    rw [hsz] at this
    rw [this]
    unfold binL
    rw [bitsL_tail hnp]
  have HJ : Hid (txt (gamL (nd n)) ++ txt (bitsL n (nd n - 1)) = txt (delL n)) := txt_join _ _
  have hgs : (txt (gamL (nd n))).size ≤ 100 := by
    rw [txt_size]; unfold gamL
    rw [List.length_append, List.length_replicate, binL_length]
    have := nd_small (n := nd n) (d := 30) hnp (by omega)
    omega
  have hts : ((txt (binL n)).extract 1 (nd n)).size = nd n - 1 := by rw [HT.out, txt_size, bitsL_length]
  generalize txt (binL n) = tx at *
  generalize txt (gamL (nd n)) = tg at *
  generalize txt (bitsL n (nd n - 1)) = tt at *
  generalize nd n = k at *
  obtain ⟨te, hte⟩ : ∃ te, te = tx.extract 1 k := ⟨_, rfl⟩
  rw [← hte] at HT hts
  have hte' := hte.symm
  clear hte
  go_enter Tryd.func31, Tryd.ntmps31
  go_wp2_with fail
  refine hf.mono ?_
  clear hf
  rintro e w1 ⟨rfl, hb1⟩
  have hkI : (1 : Int) ≤ (k : Int) := by omega
  have hcur : Below w.heap.size w w1 := hb1
  clear hb1
  go_wp2_with fail
  go_region_with (first
      | (go_at_call 30; refine (HG.out _).mono ?_; rintro e w2 ⟨rfl, hb2⟩; have hcur2 := below_chain hcur.drew hb2))
  go_wp2_with fail
  go_ret
  exact ⟨by rw [← HJ.out, ← HT.out]; rfl, hcur2⟩
set_option maxRecDepth 100000 in
set_option maxHeartbeats 1000000 in
theorem OmegaOf_any (n : Nat) (w : World) (h0 : 1 ≤ n) (h1 : n ≤ 1000000000) :
    Calls Tryd.prog 32 #[.int .i64 (n : Int)] w fun e w' => e = .returned (.string (txt (ommL n))) ∧ Below w.heap.size w w' := by
  go_enter Tryd.func32, Tryd.ntmps32
  go_wp2_with fail
  go_loopg [0, 3] n (fun gk i t wr => ∃ (f : Nat) (acc : List UInt8), i = .int .i64 (gk : Int) ∧ t = .string (txt acc) ∧ 1 ≤ gk ∧ gk ≤ 1000000000 ∧ gk ≤ f ∧ Hid (ommL n = omL f gk acc) ∧ Hid (acc.length + 40 * gk ≤ 40 * n + 1) ∧ Hid (Below w.heap.size w wr))
  case atStart => exact ⟨n, [48], rfl, rfl, h0, h1, Nat.le_refl _, rfl, (by simp; omega : [(48 : UInt8)].length + 40 * n ≤ 40 * n + 1), Below.refl _ _⟩
  case round =>
    obtain ⟨f, acc, rfl, rfl, hg0, hg1, hgf, HO, HL, HB⟩ := hrel
    by_cases hg : gk ≤ 1
    · have hgI : ¬ (1 : Int) < (gk : Int) := by omega
      have HE : Hid (ommL n = acc) := by show _ = _; rw [HO.out, omL_end hg]
      go_wp2_with fail
      go_ret
      exact ⟨by rw [HE.out]; rfl, HB.out⟩
    · have hgI : (1 : Int) < (gk : Int) := by omega
      obtain ⟨g, rfl⟩ : ∃ g, f = g + 1 := ⟨f - 1, by omega⟩
      have HE : Hid (ommL n = omL g (nd gk - 1) (binL gk ++ acc)) := by show _ = _; rw [HO.out, omL_step hg]
      obtain ⟨q1, q2⟩ := nd_less (n := gk) (by omega)
      have hn30 := binL_small hg0 hg1
      have HJ := Hid.mk' (txt_join (binL gk) acc)
      have hsz : (txt (binL gk)).size = nd gk := by rw [txt_size, binL_length]
      have hac : (txt acc).size ≤ 40000000001 := by rw [txt_size]; have := HL.out; omega
      have HL2 : Hid ((binL gk ++ acc).length + 40 * (nd gk - 1) ≤ 40 * n + 1) := by
        show _ ≤ _
        rw [List.length_append, binL_length]
        have := HL.out
        omega
      have hF := Binary_any gk wr hg0 hg1
      have hcast : ((nd gk - 1 : Nat) : Int) = (nd gk : Int) - 1 := by omega
      have HC := Hid.mk' hcast
      clear hcast
      obtain ⟨tx, htx⟩ : ∃ tx, tx = txt (binL gk) := ⟨_, rfl⟩
      obtain ⟨ta, hta⟩ : ∃ ta, ta = txt acc := ⟨_, rfl⟩
      rw [← htx] at hF HJ hsz
      rw [← hta] at HJ hac
      rw [← hta]
      clear htx hta
      go_wp2_with fail
      refine hF.mono ?_
      clear hF
      rintro e w1 ⟨rfl, hb1⟩
      have HB1 := Hid.mk' (below_chain HB.out hb1)
      clear hb1
      go_wp2_with fail
      go_roundg (nd gk - 1)
      case measure => omega
      case rel => exact ⟨g, binL gk ++ acc, by rw [HC.out], by rw [← HJ.out], q1, by omega, by omega, HE.out, HL2.out, HB1.out⟩
end Go.Proofs.YtjmjedpeibnnnaaDoor
