/- The program's words of numbers. -/
import Derived.Test.YtjmjedpeibnnnabDoorEliasMath
import Derived.Test.YtjmjedpeibnnnabDoorFmtBits
import Derived.Test.YtjmjedpeibnnnabDoorLaysP
import Derived.Test.YtjmjedpeibnnnabDoorValidWalk
import Derived.Test.YtjmjedpeibnnnabDoorWeights
import Derived.Deep.LoopGhost
namespace Go.Proofs.YtjmjedpeibnnnabDoor
open Go.RowKit

/-- The table's cell that the digits want. -/
def TabOk (w : World) : Prop := w.cell? ⟨7, 1, none⟩ = some (.int .u8 1)
theorem TabOk.later {w w' : World} (h : TabOk w) (hb : Below w.heap.size w w') : TabOk w' := by
  unfold TabOk at *
  rw [hb.cell (cell_lt h)]; exact h
theorem rep_zeros (d : Nat) : (⟨(Lib.repeatL [48] d).toArray⟩ : ByteArray) = txt (List.replicate d 48) := by
  have e : Lib.repeatL [48] d = List.replicate d 48 := by
    induction d with
    | zero => rfl
    | succ d ih => rw [List.replicate_succ, ← ih]; rfl
  rw [e]
  rfl
theorem binary_any (n : Nat) (w : World) (h0 : 1 ≤ n) (h1 : n ≤ 1000000000) (hd : TabOk w) :
    Calls Tryd.prog 20 #[.int .i64 (n : Int)] w fun e w' => e = .returned (.string (txt (binL n))) ∧ Below w.heap.size w w' := by
  have hf := FormatInt_two n w (by omega) hd
  clear hd
  go_enter Tryd.func20, Tryd.ntmps20
  go_wp2_with fail
  refine hf.mono ?_
  clear hf
  rintro e w1 ⟨k, rfl, k1, k2, k3, hb⟩
  obtain rfl := nd_is h0 k1 k2 k3
  go_wp2_with fail
  go_ret
  exact ⟨rfl, hb⟩
set_option maxRecDepth 100000 in
theorem gammaW_any (n : Nat) (w : World) (h0 : 1 ≤ n) (h1 : n ≤ 1000000000) (hd : TabOk w) :
    Calls Tryd.prog 11 #[.int .i64 (n : Int)] w fun e w' => e = .returned (.string (txt (gamL n))) ∧ Below w.heap.size w w' := by
  have hf := binary_any n w h0 h1 hd
  have hn30 := binL_small h0 h1
  have hnp := nd_pos n
  have hsz : (txt (binL n)).size = nd n := by rw [txt_size, binL_length]
  have HJ : Hid (txt (List.replicate (nd n - 1) 48) ++ txt (binL n) = txt (gamL n)) := txt_join _ _
  have HREP := Hid.mk' (fun (W : World) => Any.strings_Repeat Tryd.repeatA Tryd.repeatX ⟨#[48]⟩ (nd n - 1) W (by omega) (by show 1 * (nd n - 1) ≤ _; omega))
  have hrs : (txt (List.replicate (nd n - 1) 48)).size = nd n - 1 := by rw [txt_size, List.length_replicate]
  have hcast : ((nd n - 1 : Nat) : Int) = (nd n : Int) - 1 := by omega
  rw [hcast, rep_zeros] at HREP
  generalize txt (binL n) = tx at *
  generalize txt (List.replicate (nd n - 1) 48) = rp at *
  generalize nd n = k at *
  clear hd hcast
  go_enter Tryd.func11, Tryd.ntmps11
  go_wp2_with fail
  refine hf.mono ?_
  clear hf
  rintro e w1 ⟨rfl, hb1⟩
  have HB1 := Hid.mk' hb1
  clear hb1
  go_wp2_with fail
  refine (HREP.out _).mono ?_
  rintro e w2 ⟨rfl, hb2⟩
  have HB2 := Hid.mk' (below_chain HB1.out hb2)
  clear hb2
  go_wp2_with fail
  go_ret
  exact ⟨by rw [← HJ.out]; rfl, HB2.out⟩

theorem txt_tail (l : List UInt8) : (txt l).extract 1 (txt l).size = txt (l.drop 1) := by
  unfold txt
  apply ByteArray.ext
  apply Array.ext'
  simp [ByteArray.data_extract, ByteArray.size]
  exact List.take_of_length_le (by simp)
set_option maxRecDepth 100000 in
theorem deltaW_any (n : Nat) (w : World) (h0 : 1 ≤ n) (h1 : n ≤ 1000000000) (hd : TabOk w) :
    Calls Tryd.prog 12 #[.int .i64 (n : Int)] w fun e w' => e = .returned (.string (txt (delL n))) ∧ Below w.heap.size w w' := by
  have hf := binary_any n w h0 h1 hd
  have hn30 := binL_small h0 h1
  have hnp := nd_pos n
  have HG := Hid.mk' (fun (W : World) (hb : Below w.heap.size w W) => gammaW_any (nd n) W hnp (by omega) (hd.later hb))
  have hsz : (txt (binL n)).size = nd n := by rw [txt_size, binL_length]
  have HT : Hid ((txt (binL n)).extract 1 (nd n) = txt (bitsL n (nd n - 1))) := by
    show _ = _
    have := txt_tail (binL n)
    rw [hsz] at this
    rw [this]
    unfold binL
    rw [bitsL_tail hnp]
  have HJ : Hid (txt (gamL (nd n)) ++ txt (bitsL n (nd n - 1)) = txt (delL n)) := txt_join _ _
  have hgs : (txt (gamL (nd n))).size ≤ 100 := by
    rw [txt_size]; unfold gamL
    rw [List.length_append, List.length_replicate, binL_length]
    have := nd_small (n := nd n) (d := 30) hnp (by omega)
    omega
  have hts : ((txt (binL n)).extract 1 (nd n)).size = nd n - 1 := by rw [HT.out, txt_size, bitsL_length]
  generalize txt (binL n) = tx at *
  generalize txt (gamL (nd n)) = tg at *
  generalize txt (bitsL n (nd n - 1)) = tt at *
  generalize nd n = k at *
  obtain ⟨te, hte⟩ : ∃ te, te = tx.extract 1 k := ⟨_, rfl⟩
  rw [← hte] at HT hts
  have hte' := hte.symm
  clear hd hte
  go_enter Tryd.func12, Tryd.ntmps12
  go_wp2_with fail
  refine hf.mono ?_
  clear hf
  rintro e w1 ⟨rfl, hb1⟩
  have HB1 := Hid.mk' hb1
  have hkI : (1 : Int) ≤ (k : Int) := by omega
  clear hb1
  have hcur : Below w.heap.size w w1 := HB1.out
  go_wp2_with fail
  go_region_with (first
      | (go_at_call 11; refine (HG.out _ hcur.drew).mono ?_; rintro e w2 ⟨rfl, hb2⟩; have hcur2 := below_chain hcur.drew hb2))
  go_wp2_with fail
  go_ret
  exact ⟨by rw [← HJ.out, ← HT.out]; rfl, hcur2⟩
set_option maxRecDepth 100000 in
set_option maxHeartbeats 1000000 in
theorem omegaW_any (n : Nat) (w : World) (h0 : 1 ≤ n) (h1 : n ≤ 1000000000) (hd : TabOk w) :
    Calls Tryd.prog 13 #[.int .i64 (n : Int)] w fun e w' => e = .returned (.string (txt (ommL n))) ∧ Below w.heap.size w w' := by
  have HF := Hid.mk' (fun (W : World) (hb : Below w.heap.size w W) (n : Nat) (h0 : 1 ≤ n) (h1 : n ≤ 1000000000) => binary_any n W h0 h1 (hd.later hb))
  clear hd
  go_enter Tryd.func13, Tryd.ntmps13
  go_wp2_with fail
  go_loopg [0, 3] n (fun gk i t wr => ∃ (f : Nat) (acc : List UInt8), i = .int .i64 (gk : Int) ∧ t = .string (txt acc) ∧ 1 ≤ gk ∧ gk ≤ 1000000000 ∧ gk ≤ f ∧ Hid (ommL n = omL f gk acc) ∧ Hid (acc.length + 40 * gk ≤ 40 * n + 1) ∧ Hid (Below w.heap.size w wr))
  case atStart => exact ⟨n, [48], rfl, rfl, h0, h1, Nat.le_refl _, rfl, (by simp; omega : [(48 : UInt8)].length + 40 * n ≤ 40 * n + 1), Below.refl _ _⟩
  case round =>
    obtain ⟨f, acc, rfl, rfl, hg0, hg1, hgf, HO, HL, HB⟩ := hrel
    by_cases hg : gk ≤ 1
    · have hgI : ¬ (1 : Int) < (gk : Int) := by omega
      have HE : Hid (ommL n = acc) := by show _ = _; rw [HO.out, omL_end hg]
      go_wp2_with fail
      go_ret
      exact ⟨by rw [HE.out]; rfl, HB.out⟩
    · have hgI : (1 : Int) < (gk : Int) := by omega
      obtain ⟨g, rfl⟩ : ∃ g, f = g + 1 := ⟨f - 1, by omega⟩
      have HE : Hid (ommL n = omL g (nd gk - 1) (binL gk ++ acc)) := by show _ = _; rw [HO.out, omL_step hg]
      obtain ⟨q1, q2⟩ := nd_less (n := gk) (by omega)
      have hn30 := binL_small hg0 hg1
      have HJ := Hid.mk' (txt_join (binL gk) acc)
      have hsz : (txt (binL gk)).size = nd gk := by rw [txt_size, binL_length]
      have hac : (txt acc).size ≤ 40000000001 := by rw [txt_size]; have := HL.out; omega
      have HL2 : Hid ((binL gk ++ acc).length + 40 * (nd gk - 1) ≤ 40 * n + 1) := by
        show _ ≤ _
        rw [List.length_append, binL_length]
        have := HL.out
        omega
      have hF := HF.out _ HB.out gk hg0 hg1
      have hcast : ((nd gk - 1 : Nat) : Int) = (nd gk : Int) - 1 := by omega
      have HC := Hid.mk' hcast
      clear hcast
      obtain ⟨tx, htx⟩ : ∃ tx, tx = txt (binL gk) := ⟨_, rfl⟩
      obtain ⟨ta, hta⟩ : ∃ ta, ta = txt acc := ⟨_, rfl⟩
      rw [← htx] at hF HJ hsz
      rw [← hta] at HJ hac
      rw [← hta]
      clear htx hta
      go_wp2_with fail
      refine hF.mono ?_
      clear hF
      rintro e w1 ⟨rfl, hb1⟩
      have HB1 := Hid.mk' (below_chain HB.out hb1)
      clear hb1
      go_wp2_with fail
      go_roundg (nd gk - 1)
      case measure => omega
      case rel => exact ⟨g, binL gk ++ acc, by rw [HC.out], by rw [← HJ.out], q1, by omega, by omega, HE.out, HL2.out, HB1.out⟩

/-- What is told of a number: its word, or ErrBound. -/
def eliE (n : Int) : Nat := if 1 ≤ n ∧ n ≤ 1000000000 then 0 else 2
def eliW (L : Nat → List UInt8) (n : Int) : ByteArray := if 1 ≤ n ∧ n ≤ 1000000000 then txt (L n.toNat) else ⟨#[]⟩
set_option maxRecDepth 100000 in
theorem write_ok (F : Nat) (hF : F = 11 ∨ F = 12 ∨ F = 13) (n : Nat) (w : World) (h0 : 1 ≤ n) (h1 : n ≤ 1000000000) {tx : ByteArray}
    (hc : ∀ W, Below w.heap.size w W → Calls Tryd.prog F #[.int .i64 (n : Int)] W fun e w' => e = .returned (.string tx) ∧ Below W.heap.size W w') :
    Calls Tryd.prog 10 #[.int .i64 (n : Int), .func (.func F) #[] #[]] w fun e w' => e = .returned (.tuple #[.string tx, .nilIface]) ∧ Below w.heap.size w w' := by
  have hcw := hc w (Below.refl _ _)
  have hn1 : ¬ (n : Int) < 1 := by omega
  have hn2 : ¬ (1000000000 : Int) < (n : Int) := by omega
  clear hc
  rcases hF with rfl | rfl | rfl
  all_goals (
    go_enter Tryd.func10, Tryd.ntmps10
    go_wp2_with fail
    refine hcw.mono ?_
    clear hcw
    rintro e w1 ⟨rfl, hb1⟩
    go_wp2_with fail
    go_ret2
    exact ⟨rfl, hb1⟩)
set_option maxRecDepth 100000 in
theorem write_bad (a : Nat → Addr) (F : Nat) (n : Int) (w : World) (hE : Errs w a) (hn : ¬ (1 ≤ n ∧ n ≤ 1000000000)) :
    Calls Tryd.prog 10 #[.int .i64 n, .func (.func F) #[] #[]] w fun e w' => e = .returned (.tuple #[.string ⟨#[]⟩, errV a 2]) ∧ Below w.heap.size w w' := by
  have e1 := hE.c1
  clear hE
  by_cases h1 : n < 1
  · clear hn
    go_enter Tryd.func10, Tryd.ntmps10
    go_wp2_with fail
    go_quiet (fail)
    go_wp2_with fail
    go_ret2
    exact ⟨rfl, below_drewN (Below.refl _ _) _⟩
  · have h2 : (1000000000 : Int) < n := by omega
    clear hn
    go_enter Tryd.func10, Tryd.ntmps10
    go_wp2_with fail
    go_quiet (fail)
    go_wp2_with fail
    go_ret2
    exact ⟨rfl, below_drewN (Below.refl _ _) _⟩

set_option maxRecDepth 100000 in
theorem Gamma_word (a : Nat → Addr) (n : Int) (w : World) (hE : Errs w a) (hd : TabOk w) :
    Calls Tryd.prog 5 #[.int .i64 n] w fun e w' => e = .returned (.tuple #[.string (eliW gamL n), errV a (eliE n)]) ∧ Below w.heap.size w w' := by
  by_cases hn : 1 ≤ n ∧ n ≤ 1000000000
  · obtain ⟨m, rfl⟩ : ∃ m : Nat, n = (m : Int) := ⟨n.toNat, by omega⟩
    have hW := write_ok 11 (Or.inl rfl) m w (by omega) (by omega) (fun W hb => gammaW_any m W (by omega) (by omega) (hd.later hb))
    have HE : Hid (eliE (m : Int) = 0 ∧ eliW gamL (m : Int) = txt (gamL m)) := ⟨if_pos hn, (if_pos hn).trans (by rw [Int.toNat_natCast])⟩
    rw [HE.out.1, HE.out.2, errV_zero]
    clear hE hd hn
    generalize txt (gamL m) = tx at *
    go_enter Tryd.func5, Tryd.ntmps5
    go_wp2_with fail
    refine hW.mono ?_
    clear hW
    rintro e w1 ⟨rfl, hb1⟩
    go_wp2_with fail
    go_ret2
    exact ⟨rfl, hb1⟩
  · have hW := write_bad a 11 n w hE hn
    have HE : Hid (eliE n = 2 ∧ eliW gamL n = ⟨#[]⟩) := ⟨if_neg hn, if_neg hn⟩
    rw [HE.out.1, HE.out.2, errV_two]
    rw [errV_two] at hW
    clear hE hd hn
    go_enter Tryd.func5, Tryd.ntmps5
    go_wp2_with fail
    refine hW.mono ?_
    clear hW
    rintro e w1 ⟨rfl, hb1⟩
    go_wp2_with fail
    go_ret2
    exact ⟨rfl, hb1⟩

set_option maxRecDepth 100000 in
theorem Delta_word (a : Nat → Addr) (n : Int) (w : World) (hE : Errs w a) (hd : TabOk w) :
    Calls Tryd.prog 6 #[.int .i64 n] w fun e w' => e = .returned (.tuple #[.string (eliW delL n), errV a (eliE n)]) ∧ Below w.heap.size w w' := by
  by_cases hn : 1 ≤ n ∧ n ≤ 1000000000
  · obtain ⟨m, rfl⟩ : ∃ m : Nat, n = (m : Int) := ⟨n.toNat, by omega⟩
    have hW := write_ok 12 (Or.inr (Or.inl rfl)) m w (by omega) (by omega) (fun W hb => deltaW_any m W (by omega) (by omega) (hd.later hb))
    have HE : Hid (eliE (m : Int) = 0 ∧ eliW delL (m : Int) = txt (delL m)) := ⟨if_pos hn, (if_pos hn).trans (by rw [Int.toNat_natCast])⟩
    rw [HE.out.1, HE.out.2, errV_zero]
    clear hE hd hn
    generalize txt (delL m) = tx at *
    go_enter Tryd.func6, Tryd.ntmps6
    go_wp2_with fail
    refine hW.mono ?_
    clear hW
    rintro e w1 ⟨rfl, hb1⟩
    go_wp2_with fail
    go_ret2
    exact ⟨rfl, hb1⟩
  · have hW := write_bad a 12 n w hE hn
    have HE : Hid (eliE n = 2 ∧ eliW delL n = ⟨#[]⟩) := ⟨if_neg hn, if_neg hn⟩
    rw [HE.out.1, HE.out.2, errV_two]
    rw [errV_two] at hW
    clear hE hd hn
    go_enter Tryd.func6, Tryd.ntmps6
    go_wp2_with fail
    refine hW.mono ?_
    clear hW
    rintro e w1 ⟨rfl, hb1⟩
    go_wp2_with fail
    go_ret2
    exact ⟨rfl, hb1⟩

set_option maxRecDepth 100000 in
theorem Omega_word (a : Nat → Addr) (n : Int) (w : World) (hE : Errs w a) (hd : TabOk w) :
    Calls Tryd.prog 7 #[.int .i64 n] w fun e w' => e = .returned (.tuple #[.string (eliW ommL n), errV a (eliE n)]) ∧ Below w.heap.size w w' := by
  by_cases hn : 1 ≤ n ∧ n ≤ 1000000000
  · obtain ⟨m, rfl⟩ : ∃ m : Nat, n = (m : Int) := ⟨n.toNat, by omega⟩
    have hW := write_ok 13 (Or.inr (Or.inr rfl)) m w (by omega) (by omega) (fun W hb => omegaW_any m W (by omega) (by omega) (hd.later hb))
    have HE : Hid (eliE (m : Int) = 0 ∧ eliW ommL (m : Int) = txt (ommL m)) := ⟨if_pos hn, (if_pos hn).trans (by rw [Int.toNat_natCast])⟩
    rw [HE.out.1, HE.out.2, errV_zero]
    clear hE hd hn
    generalize txt (ommL m) = tx at *
    go_enter Tryd.func7, Tryd.ntmps7
    go_wp2_with fail
    refine hW.mono ?_
    clear hW
    rintro e w1 ⟨rfl, hb1⟩
    go_wp2_with fail
    go_ret2
    exact ⟨rfl, hb1⟩
  · have hW := write_bad a 13 n w hE hn
    have HE : Hid (eliE n = 2 ∧ eliW ommL n = ⟨#[]⟩) := ⟨if_neg hn, if_neg hn⟩
    rw [HE.out.1, HE.out.2, errV_two]
    rw [errV_two] at hW
    clear hE hd hn
    go_enter Tryd.func7, Tryd.ntmps7
    go_wp2_with fail
    refine hW.mono ?_
    clear hW
    rintro e w1 ⟨rfl, hb1⟩
    go_wp2_with fail
    go_ret2
    exact ⟨rfl, hb1⟩
end Go.Proofs.YtjmjedpeibnnnabDoor
