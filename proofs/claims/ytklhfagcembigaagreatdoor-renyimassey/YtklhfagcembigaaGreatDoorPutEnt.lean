/- dist.putEntropy: the entropy of weights put into a sum. -/
import Derived.Test.YtklhfagcembigaaGreatDoorPutF
import Derived.Test.YtklhfagcembigaaGreatDoorWeights
import Derived.Test.YtklhfagcembigaaGreatDoorPutT
namespace Go.Proofs.YtklhfagcembigaaGreatDoor
open Go.RowKit Go.Maps

/-- What the i-th weight puts: its logarithm's part of a prime. -/
def entV (z : Nat → Int) (N : Nat) (x : Int) (i : Nat) : Int := z i * multI x N - z i * multI x (z i).toNat
/-- A function that puts into the sum at b. -/
def putV (den : Int) (b : Nat) : Value := .func (.func 52) #[.agg #[.int .i64 den, .map (some b)]] #[]

theorem multI_small (x : Int) {n : Nat} (h6 : n ≤ 1000000) : 0 ≤ multI x n ∧ multI x n ≤ 19 := by
  refine ⟨multI_nonneg x n, ?_⟩
  rcases Nat.eq_zero_or_pos n with rfl | h
  · simp [multI, mult, multF]
  · exact multI_le x h h6
theorem mul_weight {t m : Int} (ht : -4096 ≤ t ∧ t ≤ 4096) (hm : 0 ≤ m ∧ m ≤ 19) : -77824 ≤ t * m ∧ t * m ≤ 77824 := by
  obtain ⟨k, rfl⟩ := Int.eq_ofNat_of_zero_le hm.1
  have hk : k ≤ 19 := by omega
  rcases k with _ | _ | _ | _ | _ | _ | _ | _ | _ | _ | _ | _ | _ | _ | _ | _ | _ | _ | _ | _ | k <;> omega
theorem entV_le {z : Nat → Int} {N i : Nat} (x : Int) (hz : 0 ≤ z i ∧ z i ≤ 4096) (hN : N ≤ 4096) : -200000 ≤ entV z N x i ∧ entV z N x i ≤ 200000 := by
  unfold entV
  have h1 := mul_weight (t := z i) (by omega) (multI_small x (n := N) (by omega))
  have h2 := mul_weight (t := z i) (by omega) (multI_small x (n := (z i).toNat) (by omega))
  omega
theorem sumN_bound {f : Nat → Int} {B : Int} : ∀ {n : Nat}, (∀ i, i < n → -B ≤ f i ∧ f i ≤ B) → -((n : Int) * B) ≤ sumN f n ∧ sumN f n ≤ (n : Int) * B
  | 0, _ => by simp [sumN]
  | n + 1, h => by
    have ih := sumN_bound (f := f) (B := B) (n := n) (fun i hi => h i (by omega))
    have h1 := h n (by omega)
    simp only [sumN]
    have : ((n + 1 : Nat) : Int) * B = (n : Int) * B + B := by rw [Int.natCast_add, Int.add_mul]; simp
    rw [this]
    omega
/-- A list's cells lie where no map does. -/
theorem RowAt.beside {w w' : World} {b o n mb nn : Nat} {z : Nat → Int} {D : DataW Unit} {k : TypeId} {R : Value → Option (DataW Unit × List MemPlace)} (h : RowAt w b o n z) (hm : w.ownsMap Tryz.prog k R mb nn D) (hg : w.grownBy w' (some mb)) : RowAt w' b o n z := fun i hi => by
  have h1 := h i hi
  refine cell_beside hg h1 ?_
  rintro rfl
  rw [map_no_cell hm] at h1
  cases h1

set_option maxRecDepth 100000 in
set_option maxHeartbeats 2000000 in
theorem putEntropy_some (den : Int) (mb nn0 b o cap n : Nat) (z : Nat → Int) (l0 : List (Int × Int)) (w : World) (hown : w.ownsMap Tryz.prog 3 (plainElem (H := Unit) Tryz.prog 3) mb nn0 (mapOf l0)) (hr : Rising l0) (hk : ∀ e ∈ l0, 2 ≤ e.1 ∧ e.1 ≤ 1000000)
    (hb : ∀ x, -1000000000000 ≤ atL l0 x ∧ atL l0 x ≤ 1000000000000) (hnn : nn0 ≤ 100000) (h : RowAt w b o n z) (hz : ∀ i, i < n → 0 ≤ z i) (hs : sumN z n ≤ 4096) (hn : n ≤ 256) :
    Calls Tryz.prog 38 #[.slice (some ⟨b, o, none⟩) n cap, putV den mb] w fun e w' => e = .returned (.tuple #[]) ∧ ∃ l nn, Puts w w' mb (fun x => sumN (entV z (sumN z n).toNat x) n) (2 * n) l0 nn0 l nn := by
  have hle : ∀ k, k ≤ n → 0 ≤ sumN z k ∧ sumN z k ≤ 4096 := fun k hk => ⟨sumN_nonneg (fun i hi => hz i (by omega)), Int.le_trans (sumN_mono hz hk) hs⟩
  have hzi : ∀ i, i < n → 0 ≤ z i ∧ z i ≤ 4096 := fun i hi => ⟨hz i hi, Int.le_trans (sumN_ge hz hi) hs⟩
  have ht := total_some b o cap n z w h (fun k hk => by have := hle k hk; omega) (fun i hi => by have := hzi i hi; omega) (by omega)
  obtain ⟨N, hN⟩ := Int.eq_ofNat_of_zero_le (hle n (Nat.le_refl _)).1
  have hN6 : N ≤ 4096 := by have := (hle n (Nat.le_refl _)).2; omega
  rw [hN] at ht ⊢
  have HP0 : Hid (Puts w w mb (fun x => sumN (entV z N x) 0) (2 * 0) l0 nn0 l0 nn0) := ⟨hown, hr, fun x => by simp [sumN], hk, by omega, by omega, grown_refl _ _⟩
  have HROW := Hid.mk' (fun (wr : World) (hg : w.grownBy wr (some mb)) => h.beside hown hg)
  have HZI := Hid.mk' hzi
  have HB := Hid.mk' hb
  have HNP : Hid (∀ i, i < n → z i ≠ 0 → 1 ≤ N) := fun i hi h0 => by have h1 := sumN_ge hz hi; have h2 := hz i hi; omega
  simp only [Int.toNat_natCast]
  clear hown hr hk hb h hz hle hzi
  unfold putV
  go_enter Tryz.func38, Tryz.ntmps38
  go_wp2_with fail
  refine ht.mono ?_
  clear ht
  rintro e w1 ⟨rfl, hw1⟩
  rw [hw1]
  clear hw1
  go_wp2_with fail
  go_loopw [11] (fun i wr => ∃ (k nn : Nat) (l : List (Int × Int)), k ≤ n ∧ i = .int .i64 k ∧ Hid (Puts w wr mb (fun x => sumN (entV z N x) k) (2 * k) l0 nn0 l nn)) (fun i _ => n - (intOf i).toNat)
  case atStart => exact ⟨0, nn0, l0, Nat.zero_le _, rfl, HP0⟩
  case round =>
    clear HP0
    obtain ⟨k, nn, l, hk, rfl, HP⟩ := hrel
    rcases Nat.lt_or_ge k n with h1 | h1
    · have hc := HROW.out _ HP.out.grow k h1
      have hkn : (k : Int) < (n : Int) := by omega
      have hzk := HZI.out k h1
      have HV : Hid (∀ x, sumN (entV z N x) (k + 1) = sumN (entV z N x) k + (z k * multI x N + -(z k) * multI x (z k).toNat)) := fun x => by
        show sumN (entV z N x) k + entV z N x k = _
        unfold entV
        rw [Int.neg_mul]; omega
      have HBD : Hid (∀ x, -1000100000000 ≤ atL l x ∧ atL l x ≤ 1000100000000) := fun x => by
        rw [HP.out.val]
        have h2 := HB.out x
        have h3 := sumN_bound (f := entV z N x) (B := 200000) (n := k) (fun i hi => entV_le x (HZI.out i (by omega)) hN6)
        have : (k : Int) * 200000 ≤ 51200000 := by omega
        omega
      have HNK := Hid.mk' (HNP.out k h1)
      obtain ⟨y, hy⟩ := Int.eq_ofNat_of_zero_le hzk.1
      rw [hy] at hc hzk HV HNK
      simp only [Int.toNat_natCast] at HV
      have hy6 : y ≤ 4096 := by have := hzk.2; omega
      have hnn1 : nn ≤ 200000 := by have := HP.out.cnt; omega
      have HP1 := Hid.mk' (Put_by den (y : Int) mb N nn l wr HP.out.own HP.out.rise HP.out.keys (fun x => by have := HBD.out x; omega) (by omega) (fun h => HNK.out h) (by omega) (by omega))
      clear hy hzk
      go_wp2_with fail
      refine HP1.out.mono ?_
      rintro e w2 ⟨rfl, l2, nn2, hp2⟩
      have hnn2 : nn2 ≤ 200020 := by have := hp2.cnt; omega
      have HP2 := Hid.mk' (Put_by den (-(y : Int)) mb y nn2 l2 w2 hp2.own hp2.rise hp2.keys (fun x => by rw [hp2.val]; have h2 := HBD.out x; have h3 := mul_weight (t := (y : Int)) (by omega) (multI_small x (n := N) (by omega)); omega) (by omega) (fun h => by omega) (by omega) (by omega))
      have HQ2 := Hid.mk' hp2
      clear hp2 HP1
      go_wp2_with fail
      refine HP2.out.mono ?_
      rintro e w3 ⟨rfl, l3, nn3, hp3⟩
      have HQ3 := Hid.mk' ((HP.out.trans (HQ2.out.trans hp3)).congr (d := 2 * (k + 1)) (by omega) (g := fun x => sumN (entV z N x) (k + 1)) (fun x => (HV.out x).symm))
      clear hp3 HP2
      go_wp2_with fail
      exact ⟨⟨k + 1, nn3, l3, h1, by go_num, HQ3⟩, by simp [intOf]; omega⟩
    · obtain rfl : k = n := by omega
      go_wp2_with fail
      go_end0
      exact ⟨rfl, l, nn, HP.out⟩
end Go.Proofs.YtklhfagcembigaaGreatDoor
