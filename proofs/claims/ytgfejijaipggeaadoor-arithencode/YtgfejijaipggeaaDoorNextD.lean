/- The next bits of the same length, in the document. -/
import Derived.Test.YtgfejijaipggeaaDoorEliasMath
import Derived.Test.YtgfejijaipggeaaDoorOwn
import Derived.Test.YtgfejijaipggeaaDoorRaiseP
namespace Go.Proofs.YtgfejijaipggeaaDoor
open Go.RowKit

theorem txt_at {x : List UInt8} {i : Nat} (h : i < (txt x).size) : (txt x)[i]'h = x.getD i 0 := by
  have h' : i < x.length := by rw [txt_size] at h; exact h
  show x[i]'h' = _
  rw [List.getD_eq_getElem?_getD, List.getElem?_eq_getElem h']
  rfl
theorem txt_cut (x y : List UInt8) : (txt (x ++ y)).extract 0 x.length = txt x := by
  apply ByteArray.ext
  simp [txt]
theorem getD_all (j i : Nat) (x : UInt8) (h : i < j) : (List.replicate j x).getD i 0 = x := by
  rw [List.getD_eq_getElem?_getD, List.getElem?_replicate, if_pos h]; rfl
set_option maxRecDepth 100000 in
theorem next_ones (j : Nat) (w : World) (hj : j ≤ 100000) :
    Calls Tryd.prog 29 #[.string (txt (List.replicate j 49))] w fun e w' => ∃ t : ByteArray, e = .returned (.string t) ∧ t.size = j + 1 ∧ w' = w := by
  have HS : Hid ((txt (List.replicate j 49)).size = j) := by show _ = _; rw [txt_size, List.length_replicate]
  have HA : Hid (∀ i (h : i < (txt (List.replicate j 49)).size), (((txt (List.replicate j 49))[i]'h).toNat : Int) = 49) := fun i h => by
    rw [txt_at h, getD_all j i 49 (by rw [HS.out] at h; exact h)]; rfl
  generalize txt (List.replicate j 49) = T at *
  obtain ⟨W, hW⟩ : ∃ W, W = w := ⟨_, rfl⟩
  rw [← hW]
  clear hW
  have hsz : (T.size : Int) = (j : Int) := by rw [HS.out]
  go_enter Tryd.func29, Tryd.ntmps29
  go_wp2_with fail
  go_loopw [3] (fun i wz => ∃ k : Nat, k ≤ j ∧ i = .int .i64 ((k : Int) - 1) ∧ wz = W) (fun i _ => (intOf i + 1).toNat)
  case atStart => exact ⟨j, Nat.le_refl _, by rw [← hsz], rfl⟩
  case round =>
    obtain ⟨k, hk, rfl, rfl⟩ := hrel
    rcases Nat.eq_zero_or_pos k with h0 | h0
    · subst h0
      go_wp2_with fail
      go_ret
      exact ⟨_, rfl, by rw [ByteArray.size_append, HS.out]; rfl, rfl⟩
    · obtain ⟨i, rfl⟩ : ∃ i, k = i + 1 := ⟨k - 1, by omega⟩
      have e : ((i + 1 : Nat) : Int) - 1 = (i : Int) := by omega
      rw [e]
      have hi : i < T.size := by rw [HS.out]; omega
      have hn := HA.out i hi
      have hi0 : (0 : Int) ≤ (i : Int) := by omega
      have hiI : (i : Int) < (T.size : Int) := by omega
      go_wp2_with fail
      exact ⟨⟨i, by omega, by go_num, trivial⟩, by simp [intOf]⟩
theorem txt_more (pre : List UInt8) (i : Nat) : txt (pre ++ 49 :: List.replicate i 48) ++ (⟨#[48]⟩ : ByteArray) = txt (pre ++ 49 :: List.replicate (i + 1) 48) := by
  rw [show (⟨#[48]⟩ : ByteArray) = txt [48] from rfl, txt_join, List.replicate_succ', List.append_assoc, List.cons_append]
set_option maxRecDepth 100000 in
set_option maxHeartbeats 1000000 in
theorem next_mid (pre : List UInt8) (t : Nat) (w : World) (hj : pre.length + 1 + t ≤ 100000) :
    Calls Tryd.prog 29 #[.string (txt (pre ++ 48 :: List.replicate t 49))] w fun e w' => e = .returned (.string (txt (pre ++ 49 :: List.replicate t 48))) ∧ w' = w := by
  have HS : Hid ((txt (pre ++ 48 :: List.replicate t 49)).size = pre.length + 1 + t) := by show _ = _; rw [txt_size]; simp; omega
  have HA : Hid (∀ i (h : i < (txt (pre ++ 48 :: List.replicate t 49)).size), pre.length < i → (((txt (pre ++ 48 :: List.replicate t 49))[i]'h).toNat : Int) = 49) := fun i h hi => by
    rw [txt_at h, getD_rep pre 48 49 t i hi (by rw [HS.out] at h; exact h)]; rfl
  have HZ : Hid (∀ (h : pre.length < (txt (pre ++ 48 :: List.replicate t 49)).size), (((txt (pre ++ 48 :: List.replicate t 49))[pre.length]'h).toNat : Int) = 48) := fun h => by
    rw [txt_at h, getD_pre]; rfl
  have HC := Hid.mk' (txt_cut pre (48 :: List.replicate t 49))
  have HF : Hid (txt pre ++ (⟨#[49]⟩ : ByteArray) = txt (pre ++ 49 :: List.replicate 0 48)) := by
    show _ = _
    rw [show (⟨#[49]⟩ : ByteArray) = txt [49] from rfl, txt_join]; rfl
  have HM := Hid.mk' (txt_more pre)
  have HL : Hid (∀ i, (txt (pre ++ 49 :: List.replicate i 48)).size = pre.length + 1 + i) := fun i => by rw [txt_size]; simp; omega
  generalize txt (pre ++ 48 :: List.replicate t 49) = T at *
  obtain ⟨O, hO⟩ : ∃ O : Nat → ByteArray, ∀ i, O i = txt (pre ++ 49 :: List.replicate i 48) := ⟨_, fun _ => rfl⟩
  have HM' : Hid (∀ i, O i ++ (⟨#[48]⟩ : ByteArray) = O (i + 1)) := fun i => by rw [hO, hO]; exact HM.out i
  have HL' : Hid (∀ i, (O i).size = pre.length + 1 + i) := fun i => by rw [hO]; exact HL.out i
  rw [← hO] at HF ⊢
  have hP0 : (txt pre).size = pre.length := txt_size pre
  generalize txt pre = P0 at *
  generalize pre.length = p at *
  clear hO HM HL
  obtain ⟨W, hW⟩ : ∃ W, W = w := ⟨_, rfl⟩
  rw [← hW]
  clear hW
  have hsz : (T.size : Int) = (p : Int) + 1 + (t : Int) := by rw [HS.out]; omega
  have HSZ := Hid.mk' hsz
  go_enter Tryd.func29, Tryd.ntmps29
  go_wp2_with fail
  go_loopw [3] (fun i wz => ∃ k : Nat, p ≤ k ∧ k ≤ p + t ∧ i = .int .i64 (k : Int) ∧ wz = W) (fun i _ => (intOf i).toNat)
  case atStart => exact ⟨p + t, by omega, Nat.le_refl _, by go_num, rfl⟩
  case round =>
    obtain ⟨k, hk1, hk2, rfl, rfl⟩ := hrel
    have hk0 : (0 : Int) ≤ (k : Int) := by omega
    have hkT : k < T.size := by rw [HS.out]; omega
    have hkI : (k : Int) < (T.size : Int) := by omega
    rcases Nat.lt_or_ge p k with h1 | h1
    · have hn := HA.out k hkT h1
      go_wp2_with fail
      exact ⟨⟨k - 1, by omega, by omega, by go_num, trivial⟩, by simp [intOf]; omega⟩
    · obtain rfl : p = k := by omega
      have hn := HZ.out hkT
      have hkL : (p : Int) ≤ (T.size : Int) := by omega
      have hcut := HC.out
      go_wp2_with fail
      rw [HF.out]
      obtain ⟨V, hV⟩ : ∃ V, V = wr := ⟨_, rfl⟩
      rw [← hV]
      have HV := Hid.mk' hV
      clear hV hcut hn hkL
      have HTE : Hid (T.size = p + 1 + t) := HS.out
      go_loopw [4] (fun s wz => ∃ i : Nat, i ≤ t ∧ s = .string (O i) ∧ wz = V) (fun s _ => match s with | .string b => p + 1 + t - b.size | _ => 0)
      case atStart => exact ⟨0, Nat.zero_le _, rfl, rfl⟩
      case round =>
        obtain ⟨i, hi, rfl, rfl⟩ := hrel
        have hsi := HL'.out i
        have hsi1 := HL'.out (i + 1)
        rcases Nat.lt_or_ge i t with h2 | h2
        · have hlt : ((O i).size : Int) < (T.size : Int) := by have := HTE.out; omega
          go_wp2_with fail
          exact ⟨⟨i + 1, h2, by rw [HM'.out], trivial⟩, by rw [HM'.out]; simp; omega⟩
        · obtain rfl : i = t := by omega
          have hlt : ¬ ((O i).size : Int) < (T.size : Int) := by have := HTE.out; omega
          go_wp2_with fail
          go_ret
          exact ⟨rfl, HV.out⟩
end Go.Proofs.YtgfejijaipggeaaDoor
