/- channel.Table in all cases, and the laws' closed fact: two even symbols, one in four of which is changed. -/
import Derived.Test.YtnihclkaaglnjaaDoorCnTab
import Derived.Test.YtnihclkaaglnjaaDoorLol
import Derived.Test.YtnihclkaaglnjaaDoorCnWh
import Derived.Test.YtnihclkaaglnjaaDoorCnErr
import Derived.Test.YtnihclkaaglnjaaDoorCgMath
import Derived.Test.YtnihclkaaglnjaaDoorCgBox
import Derived.Test.YtnihclkaaglnjaaDoorPlus
import Derived.Test.YtnihclkaaglnjaaDoorCodedV
import Derived.Laws.StructEq
import Derived.Test.YtnihclkaaglnjaaDoorRows
import Derived.Test.YtnihclkaaglnjaaDoorCode
import Derived.ChangeSame
import Derived.ChangeVars
import Derived.JoinedOf
import Derived.LaidLaws
import Derived.LaidHandle
import Derived.LaidMore
import Derived.Stop.Joined
import Derived.Test.YtnihclkaaglnjaaDoorInts
import Derived.Test.YtnihclkaaglnjaaDoorCards
import Derived.Test.YtnihclkaaglnjaaDoorTie
import Derived.SevenTiedAt
import Derived.ProofKit
import Derived.OpenShut
import Derived.ChangeOld
import Derived.Lib.SmallJoins
import Derived.Deep.Matrix
import Derived.Test.YtnihclkaaglnjaaDoorTab
import Derived.Deep.DeepHandedRow
import Derived.Deep.DeepWitnessRowRef
namespace Go.Proofs.YtnihclkaaglnjaaDoor
open Go.RowKit

theorem FG.tab {w wr : World} {g n C : Nat} {rb : Nat → Nat} {Z : Nat → Nat → Int} (h : FG w wr g n C C n rb (fun i k => .int .i64 (Z i k))) (h0 : 0 < n) (hC : 0 < C) : TabAt wr (.slice (some ⟨g, 0, none⟩) n n) n (fun i => .slice (some ⟨rb i, 0, none⟩) C C) (fun _ => C) Z := by
  refine Or.inr ⟨g, 0, n, rfl, h0, fun i hi => ⟨by rw [Nat.zero_add]; exact h.made i hi, Or.inr ⟨rb i, 0, C, rfl, hC, fun k hk => ?_⟩⟩⟩
  rw [Nat.zero_add]
  exact (h.rows i hi).row k hk
/-- The rows of a table as lists. -/
def tabL (R : Nat) (ns : Nat → Nat) (zs : Nat → Nat → Int) : List (List Int) := (List.range R).map fun i => rowL (zs i) (ns i)
theorem atF_rowL {z : Nat → Int} {n i : Nat} (hi : i < n) : atF (rowL z n) i = z i := by
  unfold atF rowL
  rw [List.getD_eq_getElem?_getD, List.getElem?_map, List.getElem?_range hi]; rfl
theorem tab_lol {w : World} {v : Value} {R : Nat} {vs : Nat → Value} {ns : Nat → Nat} {zs : Nat → Nat → Int} (h : TabAt w v R vs ns zs) : LolAt w v (tabL R ns zs) := by
  have hl : (tabL R ns zs).length = R := by simp [tabL]
  rcases h with ⟨ad, cap, rfl, rfl⟩ | ⟨b, o, cap, rfl, h0, hr⟩
  · exact ⟨ad, cap, by simp [tabL], fun i r hr => by simp [tabL] at hr⟩
  · refine ⟨some ⟨b, o, none⟩, cap, by rw [hl], fun i r hi => ?_⟩
    have hiR : i < R := by rw [← hl]; exact (List.getElem?_eq_some_iff.mp hi).1
    have e : r = rowL (zs i) (ns i) := by
      unfold tabL at hi
      rw [List.getElem?_map, List.getElem?_range hiR] at hi
      exact (Option.some.inj hi).symm
    subst e
    refine ⟨b, o, vs i, rfl, (hr i hiR).1, ?_⟩
    rw [rowL_length]
    exact (hr i hiR).2.congr fun k hk => (atF_rowL hk).symm
theorem tabL_same {R : Nat} {ns ns' : Nat → Nat} {zs zs' : Nat → Nat → Int} (h1 : ∀ i, i < R → ns i = ns' i) (h2 : ∀ i k, i < R → k < ns i → zs i k = zs' i k) : tabL R ns zs = tabL R ns' zs' := by
  refine List.map_congr_left fun i hi => ?_
  have hi' := List.mem_range.mp hi
  rw [← h1 i hi']
  exact List.map_congr_left fun k hk => h2 i k hi' (List.mem_range.mp hk)
theorem tabL_row {R : Nat} {ns : Nat → Nat} {zs : Nat → Nat → Int} {B : Nat} (h : ∀ i, i < R → ns i ≤ B) (r : List Int) (hr : r ∈ tabL R ns zs) : r.length ≤ B := by
  obtain ⟨i, hi, rfl⟩ := List.mem_map.mp hr
  rw [rowL_length]
  exact h i (List.mem_range.mp hi)

theorem chTable_any (a : Nat → Addr) (u : Value) (n : Nat) (z : Nat → Int) (v : Value) (R : Nat) (vs : Nat → Value) (ns : Nat → Nat) (zs : Nat → Nat → Int) (w : World) (hE : Errs w a) (hu : NumsAt w u n z) (h : TabAt w v R vs ns zs) (hn : n ≤ 1000) (hR : R ≤ 40) (hns : ∀ i, i < R → ns i ≤ 400) :
    Calls Tryd.prog 12 #[u, v] w fun e w' => ∃ t', e = .returned (.tuple #[t', errV a (taErr n z R ns zs)]) ∧ (taErr n z R ns zs ≠ 0 → t' = .slice none 0 0) ∧ (taErr n z R ns zs = 0 → ∃ vs', TabAt w' t' R vs' (fun _ => ns 0) (outZ n z R (ns 0) zs)) ∧ Below w.heap.size w w' := by
  by_cases h1 : inErr n z R ns zs = 0
  · refine (Table_main a u n z v R vs ns zs w hE hu h h1).mono ?_
    rintro e w' ⟨hA, hB, hb⟩
    obtain ⟨hok, _⟩ := inOk_of h1
    by_cases h2 : 4096 < inL n z R (ns 0) zs
    · have ht : taErr n z R ns zs = 2 := by unfold taErr; rw [if_neg (by omega), if_pos h2]
      refine ⟨_, by rw [hB h2, ht], fun _ => rfl, fun h => ?_, hb⟩
      rw [ht] at h; cases h
    · have ht : taErr n z R ns zs = 0 := by unfold taErr; rw [if_neg (by omega), if_neg h2]
      obtain ⟨g, rb, he, hF⟩ := hA (by omega)
      exact ⟨_, by rw [he, ht]; rfl, fun h => absurd ht h, fun _ => ⟨_, hF.tab hok.n0 hok.c0⟩, hb⟩
  · have ht : taErr n z R ns zs = inErr n z R ns zs := by unfold taErr; rw [if_pos h1]
    by_cases h2 : chanErr R ns zs ≠ 0
    · have ht2 : taErr n z R ns zs = chanErr R ns zs := by rw [ht]; unfold inErr; rw [if_pos h2]
      obtain ⟨ad, cap, rfl⟩ := hu.form
      refine (Table_chan a ad n cap v R vs ns zs w hE h hR hns h2).mono ?_
      rintro e w' ⟨rfl, rfl⟩
      exact ⟨_, by rw [ht2], fun _ => rfl, fun h => by rw [ht2] at h; exact absurd h h2, Below.refl _ _⟩
    · by_cases h3 : weightsErr z n ≠ 0
      · have ht2 : taErr n z R ns zs = weightsErr z n := by rw [ht]; unfold inErr; rw [if_neg h2, if_pos h3]
        refine (Table_weights a u n z v R vs ns zs w hE hu h hn hR hns (by omega) h3).mono ?_
        rintro e w' ⟨rfl, rfl⟩
        exact ⟨_, by rw [ht2], fun _ => rfl, fun h => by rw [ht2] at h; exact absurd h h3, Below.refl _ _⟩
      · have hne : n ≠ R := fun e => h1 (by unfold inErr; rw [if_neg h2, if_neg h3, if_neg (by omega)])
        have ht2 : taErr n z R ns zs = 3 := by rw [ht]; unfold inErr; rw [if_neg h2, if_neg h3, if_pos hne]
        refine (Table_lens a u n z v R vs ns zs w hE hu h hn hR hns (by omega) (by omega) hne).mono ?_
        rintro e w' ⟨rfl, hb⟩
        exact ⟨_, by rw [ht2], fun _ => rfl, (fun h => by rw [ht2] at h; cases h), hb⟩

/-- The two rows of the closed fact. -/
def noisZ (i k : Nat) : Int := if i = k then 3 else 1
theorem noisy_err : inErr 2 (fun _ => 1) 2 (fun _ => 2) noisZ = 0 := by decide
theorem noisy_ta : taErr 2 (fun _ => 1) 2 (fun _ => 2) noisZ = 0 := by decide +kernel
theorem noisy_out (i k : Nat) (hi : i < 2) (hk : k < 2) : outZ 2 (fun _ => 1) 2 2 noisZ i k = noisZ i k := by
  rcases (show i = 0 ∨ i = 1 by omega) with rfl | rfl <;> rcases (show k = 0 ∨ k = 1 by omega) with rfl | rfl <;> decide +kernel
theorem topc_cell (W : World) (c : Array Value) (t : TypeId) {b : Nat} (j : Nat) (hb : b = W.heap.size) : (W.alloc (.cells c t)).cell? ⟨b, j, none⟩ = c[j]? := by subst hb; simp
theorem noisy_table (w : World) (t1 t2 : TypeId) : TabAt (((w.alloc (.cells #[.int .i64 3, .int .i64 1] t1)).alloc (.cells #[.int .i64 1, .int .i64 3] t1)).alloc (.cells #[.slice (some ⟨w.heap.size, 0, none⟩) 2 2, .slice (some ⟨w.heap.size + 1, 0, none⟩) 2 2] t2)) (.slice (some ⟨w.heap.size + 1 + 1, 0, none⟩) 2 2) 2 (fun i => .slice (some ⟨w.heap.size + i, 0, none⟩) 2 2) (fun _ => 2) noisZ := by
  refine Or.inr ⟨_, _, _, rfl, by decide, fun i hi => ⟨?_, Or.inr ⟨_, _, _, rfl, (by show 0 < 2; decide), fun k hk => ?_⟩⟩⟩
  · rcases (show i = 0 ∨ i = 1 by omega) with rfl | rfl
    · exact topc_cell _ _ _ _ (by simp)
    · exact topc_cell _ _ _ _ (by simp)
  · have hk2 : k < 2 := hk
    rcases (show i = 0 ∨ i = 1 by omega) with rfl | rfl
    · rw [World.cell?_alloc_lt _ _ _ (by simp; omega), World.cell?_alloc_lt _ _ _ (by simp)]
      rcases (show k = 0 ∨ k = 1 by omega) with rfl | rfl
      · exact topc_cell _ _ _ _ rfl
      · exact topc_cell _ _ _ _ rfl
    · rw [World.cell?_alloc_lt _ _ _ (by simp)]
      rcases (show k = 0 ∨ k = 1 by omega) with rfl | rfl
      · exact topc_cell _ _ _ _ (by simp)
      · exact topc_cell _ _ _ _ (by simp)

set_option maxRecDepth 100000 in
set_option maxHeartbeats 4000000 in
theorem noisy_any (a : Nat → Addr) (w : World) (hE : Errs w a) : Calls Tryd.prog 6 #[] w fun e w' => e = .returned (.bool true) ∧ Below w.heap.size w w' := by
  obtain ⟨W0, hW0⟩ : ∃ W0, W0 = w.alloc (.cells #[.int .i64 1, .int .i64 1] 3) := ⟨_, rfl⟩
  obtain ⟨W3, hW3⟩ : ∃ W3, W3 = ((W0.alloc (.cells #[.int .i64 3, .int .i64 1] 3)).alloc (.cells #[.int .i64 1, .int .i64 3] 3)).alloc (.cells #[.slice (some ⟨W0.heap.size, 0, none⟩) 2 2, .slice (some ⟨W0.heap.size + 1, 0, none⟩) 2 2] 31) := ⟨_, rfl⟩
  have hs0 : W0.heap.size = w.heap.size + 1 := by rw [hW0]; simp
  have hb0 : Below w.heap.size w W0 := by rw [hW0]; exact (Below.refl _ _).alloc (Nat.le_refl _) _
  have hb3 : Below W0.heap.size W0 W3 := by rw [hW3]; exact (((Below.refl _ _).alloc (Nat.le_refl _) _).alloc (by simp) _).alloc (by simp; omega) _
  have htab : TabAt W3 (.slice (some ⟨W0.heap.size + 1 + 1, 0, none⟩) 2 2) 2 (fun i => .slice (some ⟨W0.heap.size + i, 0, none⟩) 2 2) (fun _ => 2) noisZ := by rw [hW3]; exact noisy_table W0 _ _
  have hnum : NumsAt W0 (.slice (some ⟨w.heap.size, 0, none⟩) 2 2) 2 (fun _ => 1) := by
    refine Or.inr ⟨_, _, _, rfl, by decide, fun i hi => ?_⟩
    rw [hW0]
    rcases (show i = 0 ∨ i = 1 by omega) with rfl | rfl
    · exact topc_cell _ _ _ _ rfl
    · exact topc_cell _ _ _ _ rfl
  have hT := chTable_any a _ 2 (fun _ => 1) _ 2 _ (fun _ => 2) noisZ W3 (hE.below (below_chain hb0 hb3)) (hnum.later hb3) htab (by decide) (by decide) (fun _ _ => by decide)
  rw [noisy_ta, errV_zero] at hT
  have HB3 := Hid.mk' (below_chain hb0 hb3)
  rw [hW3, hs0, hW0] at hT
  clear htab hnum hb0 hb3 hE
  go_enter Tryd.func6, Tryd.ntmps6
  go_wp2_with fail
  refine hT.mono ?_
  clear hT
  rintro e w5 ⟨t5, rfl, _, ht5, hb5⟩
  obtain ⟨vs5, ht5⟩ := ht5 trivial
  rw [← hs0, ← hW0, ← hW3] at hb5
  obtain ⟨ad5, cap5, rfl⟩ := ht5.form
  have HL5 : Hid (LolAt w5 (.slice ad5 2 cap5) (tabL 2 (fun _ => 2) noisZ)) := by
    have := tab_lol ht5
    rw [tabL_same (ns' := fun _ => 2) (zs' := noisZ) (fun _ _ => rfl) (fun i k hi hk => noisy_out i k hi hk)] at this
    exact this
  have HB5 := Hid.mk' (below_chain HB3.out hb5)
  clear ht5 hb5 hs0 hW0 hW3
  go_wp2_with fail
  have HB6 : Hid (Below w5.heap.size w5 (((w5.alloc (.cells #[.int .i64 3, .int .i64 1] 3)).alloc (.cells #[.int .i64 1, .int .i64 3] 3)).alloc (.cells #[.slice (some ⟨w5.heap.size, 0, none⟩) 2 2, .slice (some ⟨w5.heap.size + 1, 0, none⟩) 2 2] 31))) := (((Below.refl _ _).alloc (Nat.le_refl _) _).alloc (by simp) _).alloc (by simp; omega) _
  refine (SameLists_any _ _ (tabL 2 (fun _ => 2) noisZ) _ (HL5.out.later HB6.out) (tab_lol (noisy_table w5 3 31)) (by decide) (fun r hr => Nat.le_trans (tabL_row (B := 2) (fun _ _ => Nat.le_refl _) r hr) (by decide))).mono ?_
  rintro e w7 ⟨rfl, hb7⟩
  have HB7 := Hid.mk' (below_chain HB5.out (below_chain HB6.out hb7))
  clear hb7
  go_wp2_with fail
  go_ret
  exact ⟨rfl, HB7.out⟩
end Go.Proofs.YtnihclkaaglnjaaDoor

/- The document's table of what goes in and comes out. -/
namespace Go.Proofs.YtnihclkaaglnjaaDoor
open Go.RowKit

/-- The lists of both sides are one. -/
theorem whL_flat (C : Nat) (f : Nat → Nat → Nat × Nat) (L : Nat) : ∀ R, (flatF C f R).map (fun p => (wholeP L p : Int)) = flatL (fun _ => C) (fun i k => (wholeP L (f i k) : Int)) R
  | 0 => rfl
  | R + 1 => by
    have h := whL_flat C f L R
    show (flatF C f R ++ (List.range C).map (f R)).map _ = flatL (fun _ => C) _ R ++ rowL _ C
    rw [List.map_append, h, List.map_map]
    rfl
theorem whL_out (n : Nat) (z : Nat → Int) (R C : Nat) (zs : Nat → Nat → Int) : whL (flatF C (inF n z C zs) R) = flatL (fun _ => C) (outZ n z R C zs) R := whL_flat C _ _ R
theorem sumN_listC : ∀ l : List Int, sumN (atF l) l.length = l.sum := by
  have h : ∀ n, ∀ l : List Int, l.length = n → sumN (atF l) l.length = l.sum := by
    intro n
    induction n with
    | zero => intro l hl; rw [List.length_eq_zero_iff.mp hl]; rfl
    | succ n ih =>
      intro l hl
      have hne : l ≠ [] := fun e => by rw [e] at hl; simp at hl
      have e := List.dropLast_concat_getLast hne
      have hd : l.dropLast.length = n := by simp; omega
      have h1 := ih _ hd
      have h2 : sumN (atF l) (n + 1) = sumN (atF l) n + atF l n := rfl
      have h3 : sumN (atF l) n = sumN (atF l.dropLast) n := sumN_congr fun i hi => by
        unfold atF
        rw [List.getD_eq_getElem?_getD, List.getD_eq_getElem?_getD, List.getElem?_dropLast, if_pos (by omega)]
      have h4 : atF l n = l.getLast hne := by
        unfold atF
        rw [List.getD_eq_getElem?_getD, List.getLast_eq_getElem]
        simp [hl]
      rw [hl, h2, h3, h4]
      rw [hd] at h1
      rw [h1]
      conv => rhs; rw [← e]
      simp
  exact fun l => h _ l rfl
theorem sum_cast (L : Nat) : ∀ l : List (Nat × Nat), (l.map (fun p => (wholeP L p : Int))).sum = ((sumP L l : Nat) : Int)
  | [] => rfl
  | p :: r => by
    have h := sum_cast L r
    have e : sumP L (p :: r) = wholeP L p + sumP L r := by simp [sumP]
    rw [e, List.map_cons, List.sum_cons, h]
    simp
theorem wholeP_le_sum {L : Nat} : ∀ {l : List (Nat × Nat)} {p : Nat × Nat}, p ∈ l → wholeP L p ≤ sumP L l
  | q :: r, p, h => by
    have e : sumP L (q :: r) = wholeP L q + sumP L r := by simp [sumP]
    rw [e]
    rcases List.mem_cons.mp h with rfl | h
    · omega
    · have := wholeP_le_sum (L := L) h
      omega
theorem longB_const {C : Nat} (hC : C ≤ 16) : ∀ R, longB (fun _ => C) R = false
  | 0 => rfl
  | R + 1 => by show (longB (fun _ => C) R || decide (16 < C)) = false; rw [longB_const hC R, decide_eq_false (by omega)]; rfl
theorem unevenB_const (C : Nat) : ∀ R, unevenB (fun _ => C) R = false
  | 0 => rfl
  | R + 1 => by show (unevenB (fun _ => C) R || _) = false; rw [unevenB_const C R]; simp
theorem sumT_constC (C : Nat) : ∀ R, sumT (fun _ => C) R = R * C
  | 0 => by simp [sumT]
  | R + 1 => by show sumT (fun _ => C) R + C = _; rw [sumT_constC C R, Nat.succ_mul]
/-- The table's own error: only its sum can be too great. -/
theorem tabErr_out {n : Nat} {z : Nat → Int} {R C : Nat} {zs : Nat → Nat → Int} (h : InOk n z R C zs) : tabErr R (fun _ => C) (outZ n z R C zs) = if 4096 < inL n z R C zs then 2 else 0 := by
  have h16 := h.n16
  rw [tabErr_even (by omega) (longB_const h.c16 R) (unevenB_const C R)]
  have hs : sumN (atF (flatL (fun _ => C) (outZ n z R C zs) R)) (flatL (fun _ => C) (outZ n z R C zs) R).length = (inL n z R C zs : Int) := by
    rw [sumN_listC, ← whL_out]
    unfold whL
    rw [sum_cast]
    have := h.sum
    unfold inL at this ⊢
    rw [this]
  have hnn : ∀ i, i < (flatL (fun _ => C) (outZ n z R C zs) R).length → 0 ≤ atF (flatL (fun _ => C) (outZ n z R C zs) R) i := fun i hi => by
    rw [← whL_out] at hi ⊢
    unfold atF whL at *
    rw [List.getD_eq_getElem?_getD, List.getElem?_map]
    cases e : (flatF C (inF n z C zs) R)[i]? with
    | none => simp
    | some p => simp
  have hneg : negB (atF (flatL (fun _ => C) (outZ n z R C zs) R)) (flatL (fun _ => C) (outZ n z R C zs) R).length = false := by
    cases e : negB (atF (flatL (fun _ => C) (outZ n z R C zs) R)) (flatL (fun _ => C) (outZ n z R C zs) R).length with
    | false => rfl
    | true =>
      obtain ⟨i, hi, hn⟩ := (negB_iff _ _).1 e
      have := hnn i hi
      omega
  have hLp : 0 < inL n z R C zs := lcmP_pos _ fun p hp => by
    obtain ⟨i, k, hi, hk, rfl⟩ := flatF_mem hp
    exact (h.low hi k).1
  have hsome : someB (atF (flatL (fun _ => C) (outZ n z R C zs) R)) (flatL (fun _ => C) (outZ n z R C zs) R).length = true := by
    cases e : someB (atF (flatL (fun _ => C) (outZ n z R C zs) R)) (flatL (fun _ => C) (outZ n z R C zs) R).length with
    | true => rfl
    | false =>
      exfalso
      have hz : ∀ i, i < (flatL (fun _ => C) (outZ n z R C zs) R).length → atF (flatL (fun _ => C) (outZ n z R C zs) R) i = (fun _ => 0) i := fun i hi => by
        have h1 := hnn i hi
        have h2 : ¬ 0 < atF (flatL (fun _ => C) (outZ n z R C zs) R) i := fun hp => by
          have := (someB_iff _ _).2 ⟨i, hi, hp⟩
          rw [e] at this; cases this
        show _ = (0 : Int)
        omega
      rw [sumN_congr hz] at hs
      have h0 : ∀ m, sumN (fun _ => 0) m = 0 := by
        intro m
        induction m with
        | zero => rfl
        | succ m ih => show sumN (fun _ => 0) m + 0 = 0; rw [ih]; rfl
      rw [h0] at hs
      omega
  by_cases hg : 4096 < inL n z R C zs
  · rw [if_pos hg]
    exact listErr_great hneg hsome (by rw [hs]; omega)
  · rw [if_neg hg]
    exact listErr_none0 hneg hsome (by rw [hs]; omega)

set_option maxRecDepth 100000 in
theorem InError_any (u : Value) (n : Nat) (z : Nat → Int) (v : Value) (R : Nat) (vs : Nat → Value) (ns : Nat → Nat) (zs : Nat → Nat → Int) (w : World) (hu : NumsAt w u n z) (h : TabAt w v R vs ns zs) (hn : n ≤ 1000) (hR : R ≤ 40) (hns : ∀ i, i < R → ns i ≤ 400) :
    Calls Tryd.prog 30 #[u, v] w fun e w' => e = .returned (.int .i64 (inErr n z R ns zs : Nat)) ∧ Below w.heap.size w w' := by
  have hC := ChannelError_any v R vs ns zs w h (by omega) (fun i hi => by have := hns i hi; omega)
  have HW : Hid (∀ W, Below w.heap.size w W → Calls Tryd.prog 48 #[u] W fun e w' => e = .returned (.int .i64 (weightsErr z n : Int)) ∧ w' = W) := fun W hb => WeightsError_any _ n z W (hu.later hb) (by omega)
  obtain ⟨ad, cap, rfl⟩ := hu.form
  obtain ⟨ad', cap', rfl⟩ := h.form
  have HE : Hid (inErr n z R ns zs = if chanErr R ns zs ≠ 0 then chanErr R ns zs else if weightsErr z n ≠ 0 then weightsErr z n else if n ≠ R then 3 else 0) := rfl
  generalize inErr n z R ns zs = ie at *
  have hcl := chanErr_le R ns zs
  have hwl := weightsErr_le z n
  generalize chanErr R ns zs = c at *
  generalize weightsErr z n = d at *
  clear h hu hns
  by_cases h1 : c = 0
  · subst h1
    rw [if_neg (by simp)] at HE
    by_cases h2 : d = 0
    · subst h2
      rw [if_neg (by simp)] at HE
      by_cases h3 : n = R
      · subst h3
        rw [if_neg (by simp)] at HE
        have hnb : ((n : Int) != (n : Int)) = false := by simp
        go_enter Tryd.func30, Tryd.ntmps30
        go_wp2_with fail
        refine hC.mono ?_
        rintro e w1 ⟨rfl, hb1⟩
        have HB1 := Hid.mk' hb1
        clear hb1
        go_wp2_with fail
        refine (HW.out w1 HB1.out).mono ?_
        rintro e w2 ⟨rfl, hw2⟩
        rw [hw2]
        clear hw2
        go_wp2_with fail
        go_ret
        exact ⟨ret_int (by rw [HE.out]; rfl), HB1.out⟩
      · rw [if_pos h3] at HE
        have hnb : ((n : Int) != (R : Int)) = true := by rw [bne_iff_ne]; omega
        go_enter Tryd.func30, Tryd.ntmps30
        go_wp2_with fail
        refine hC.mono ?_
        rintro e w1 ⟨rfl, hb1⟩
        have HB1 := Hid.mk' hb1
        clear hb1
        go_wp2_with fail
        refine (HW.out w1 HB1.out).mono ?_
        rintro e w2 ⟨rfl, hw2⟩
        rw [hw2]
        clear hw2
        go_wp2_with fail
        go_ret
        exact ⟨ret_int (by rw [HE.out]; rfl), HB1.out⟩
    · rw [if_pos h2] at HE
      have hdb : ((d : Int) == 0) = false := by rw [beq_eq_false_iff_ne]; omega
      go_enter Tryd.func30, Tryd.ntmps30
      go_wp2_with fail
      refine hC.mono ?_
      rintro e w1 ⟨rfl, hb1⟩
      have HB1 := Hid.mk' hb1
      clear hb1
      go_wp2_with fail
      refine (HW.out w1 HB1.out).mono ?_
      rintro e w2 ⟨rfl, hw2⟩
      rw [hw2]
      clear hw2
      go_wp2_with fail
      go_ret
      exact ⟨ret_int (by rw [HE.out]), HB1.out⟩
  · rw [if_pos h1] at HE
    have hdb : ((c : Int) == 0) = false := by rw [beq_eq_false_iff_ne]; omega
    go_enter Tryd.func30, Tryd.ntmps30
    go_wp2_with fail
    refine hC.mono ?_
    rintro e w1 ⟨rfl, hb1⟩
    have HB1 := Hid.mk' hb1
    clear hb1
    go_wp2_with fail
    go_ret
    exact ⟨ret_int (by rw [HE.out]), HB1.out⟩

/-- A table, whatever its rows' slices are. -/
def TabIs (w : World) (v : Value) (R : Nat) (ns : Nat → Nat) (zs : Nat → Nat → Int) : Prop := ∃ vs, TabAt w v R vs ns zs
set_option maxRecDepth 100000 in
set_option maxHeartbeats 2000000 in
theorem cutOf_any (g cap R C : Nat) (z : Nat → Int) (w : World) (h : RowAt w g 0 (R * C) z) (hcap : R * C ≤ cap) (hR : R ≤ 16) (hC : C ≤ 16) (hR0 : 0 < R) (hC0 : 0 < C) :
    Calls Tryd.prog 34 #[.slice (some ⟨g, 0, none⟩) (R * C) cap, .int .i64 (C : Int)] w fun e w' => ∃ v', e = .returned v' ∧ TabIs w' v' R (fun _ => C) (fun i k => z (i * C + k)) ∧ Below w.heap.size w w' := by
  obtain ⟨i0, hi, hz0, hz1, hz2⟩ := info_parts Tryd.infoInts
  have HINF : Hid (Tryd.prog.info? 31 = some i0 ∧ i0.zero = some (.slice none 0 0) ∧ i0.size = 1 ∧ i0.bytes = 24) := ⟨hi, hz0, hz1, hz2⟩
  have HR := Hid.mk' (fun (W : World) (hb : Below w.heap.size w W) => h.later hb)
  have hRC : R * C ≤ 256 := Nat.le_trans (Nat.mul_le_mul hR hC) (by decide)
  clear hi hz0 hz1 hz2 h
  generalize hM : R * C = M at *
  have HM := Hid.mk' hM
  clear hM
  go_enter Tryd.func34, Tryd.ntmps34
  go_wp2_with fail
  go_loopw [5, 6] (fun s t wr => ∃ k : Nat, k ≤ R ∧ t = .int .i64 ((k * C : Nat) : Int) ∧ Hid (wr.ownsRow w.heap.size 31 1 s k (rowV (fun i => .slice (some ⟨g, i * C, none⟩) C (cap - i * C)) k)) ∧ Hid (Below w.heap.size w wr)) (fun _ t _ => M - (intOf t).toNat)
  case atStart => exact ⟨0, Nat.zero_le _, by simp, World.ownsRow_nil _ _ _ _, Below.refl _ _⟩
  case round =>
    obtain ⟨k, hk, rfl, HO, HB⟩ := hrel
    rcases Nat.lt_or_ge k R with h1 | h1
    · have hkC : k * C + C ≤ M := by rw [← HM.out, ← Nat.succ_mul]; exact Nat.mul_le_mul_right _ h1
      have HKS : Hid ((k + 1) * C = k * C + C) := Nat.succ_mul k C
      have HRV : Hid (rowV (fun i => .slice (some ⟨g, i * C, none⟩) C (cap - i * C)) (k + 1) = rowV (fun i => .slice (some ⟨g, i * C, none⟩) C (cap - i * C)) k ++ [.slice (some ⟨g, k * C, none⟩) C (cap - k * C)]) := by
        show _ = _
        unfold rowV
        rw [List.range_succ]; simp
      have hsz := HB.out.size
      generalize hkc : k * C = kc at *
      have HKC := Hid.mk' hkc
      clear hkc
      have hle : ((kc : Int) + (C : Int)) ≤ (M : Int) := by omega
      go_wp2_with (at_builtin; go_must (refine wpList_append_lies _ rfl _ _ _ rfl w.heap.size 31 i0 _ 1 24 Tryd.underlying22 HINF.out.1 HINF.out.2.1 HINF.out.2.2.1 HINF.out.2.2.2 rfl (by omega) u5 _ _ rfl (HO.out.alloc _) ⟨wr.heap.size, 0, none⟩ 1 1 [_] rfl rfl (one_new _ _ _) (by simp [Value.oneCell']) (by omega) (by unfold maxLen; omega) (by omega) (by simp; omega) _ rfl ?_; intro g' cap2 w5 hown5 hgrow5 hat5 hlt5; have HO5 := Hid.mk' hown5; have HB5 := Hid.mk' (below_push HB.out HO.out hgrow5); clear hown5 hgrow5 hat5))
      refine ⟨⟨k + 1, h1, ?_, ?_, HB5⟩, by simp [intOf]; omega⟩
      · rw [HKS.out]; go_num
      · rw [HRV.out]; exact HO5
    · obtain rfl : k = R := by omega
      have hle : ¬ ((M : Int) + (C : Int)) ≤ (M : Int) := by omega
      rw [HM.out]
      go_wp2_with fail
      go_ret
      refine ⟨_, rfl, ⟨_, tabAt_of_row HO.out (fun i hi => ?_)⟩, HB.out⟩
      refine Or.inr ⟨g, i * C, cap - i * C, rfl, hC0, fun j hj => ?_⟩
      have h5 : i * C + C ≤ M := by rw [← HM.out, ← Nat.succ_mul]; exact Nat.mul_le_mul_right _ hi
      have := HR.out wr HB.out (i * C + j) (by omega)
      rw [Nat.zero_add] at this
      exact this

theorem flatL_at {C : Nat} {Z : Nat → Nat → Int} : ∀ {R i k : Nat}, i < R → k < C → atF (flatL (fun _ => C) Z R) (i * C + k) = Z i k
  | R + 1, i, k, hi, hk => by
    have hl : (flatL (fun _ => C) Z R).length = R * C := by rw [flatL_length, sumT_constC]
    unfold atF
    show (flatL (fun _ => C) Z R ++ rowL (Z R) C).getD (i * C + k) 0 = _
    rw [List.getD_eq_getElem?_getD]
    rcases Nat.lt_or_ge i R with h | h
    · have h5 : i * C + C ≤ R * C := by rw [← Nat.succ_mul]; exact Nat.mul_le_mul_right _ h
      rw [List.getElem?_append_left (by rw [hl]; omega), ← List.getD_eq_getElem?_getD]
      exact flatL_at h hk
    · obtain rfl : i = R := by omega
      rw [List.getElem?_append_right (by rw [hl]; omega), hl, show i * C + k - i * C = k by omega, ← List.getD_eq_getElem?_getD]
      exact atF_rowL hk
set_option maxRecDepth 100000 in
set_option maxHeartbeats 4000000 in
theorem TableOf_any (u : Value) (n : Nat) (z : Nat → Int) (v : Value) (R : Nat) (vs : Nat → Value) (ns : Nat → Nat) (zs : Nat → Nat → Int) (w : World) (hu : NumsAt w u n z) (h : TabAt w v R vs ns zs) (hn : n ≤ 1000) (hR : R ≤ 40) (hns : ∀ i, i < R → ns i ≤ 400) :
    Calls Tryd.prog 14 #[u, v] w fun e w' => ∃ t', e = .returned (.tuple #[t', .int .i64 (taErr n z R ns zs : Nat)]) ∧ (taErr n z R ns zs ≠ 0 → t' = .slice none 0 0) ∧ (taErr n z R ns zs = 0 → TabIs w' t' R (fun _ => ns 0) (outZ n z R (ns 0) zs)) ∧ Below w.heap.size w w' := by
  have hI := InError_any u n z v R vs ns zs w hu h hn hR hns
  have HTL := Hid.mk' (inErr_le n z R ns zs)
  by_cases he : inErr n z R ns zs = 0
  · obtain ⟨hok, hev⟩ := inOk_of he
    have HOK := Hid.mk' hok
    have HCH : Hid (∀ W, Below w.heap.size w W → Calls Tryd.prog 32 #[u, v] W fun e w' => ∃ v', e = .returned v' ∧ RtAt w' v' (flatF (ns 0) (inF n z (ns 0) zs) R) ∧ Below W.heap.size W w') := fun W hb => Chances_any u n z v R vs ns zs W (hu.later hb) (h.later hb) he
    have HTA : Hid (taErr n z R ns zs = if 4096 < inL n z R (ns 0) zs then 2 else 0) := by show _ = _; unfold taErr; rw [if_neg (by omega)]
    have HTE := Hid.mk' (tabErr_out hok)
    have HFB : Hid (∀ p, p ∈ flatF (ns 0) (inF n z (ns 0) zs) R → 0 < p.2 ∧ p.2 ≤ 1000000000 ∧ p.1 ≤ 1000000000) := fun p hp => by
      obtain ⟨i, k, hi, hk, rfl⟩ := flatF_mem hp
      obtain ⟨_, _, _, _, h5, h6, h7⟩ := hok.bounds hi hk
      exact ⟨h5, by omega, by omega⟩
    have HFL : Hid ((flatF (ns 0) (inF n z (ns 0) zs) R).length = R * ns 0) := flatF_length _ _ _
    have h16 := hok.n16
    have h0 := hok.n0
    have hC16 := hok.c16
    have hC0 := hok.c0
    have hRC : R * ns 0 ≤ 256 := Nat.le_trans (Nat.mul_le_mul h16 hC16) (by decide)
    have HC0 : Hid (∀ W, Below w.heap.size w W → ∃ rad rcap b o cap, v = .slice (some ⟨b, o, none⟩) R cap ∧ W.cell? ⟨b, o, none⟩ = some (.slice rad (ns 0) rcap)) := fun W hb => by
      rcases h.later hb with ⟨_, _, _, h1⟩ | ⟨b, o, cap, h1, _, h2⟩
      · omega
      · obtain ⟨h3, h4⟩ := h2 0 h0
        obtain ⟨rad, rcap, hre⟩ := h4.form
        rw [hre, Nat.add_zero] at h3
        exact ⟨rad, rcap, b, o, cap, h1, h3⟩
    have HMX : Hid (∀ p, p ∈ flatF (ns 0) (inF n z (ns 0) zs) R → wholeP (inL n z R (ns 0) zs) p ≤ inL n z R (ns 0) zs) := fun p hp => by
      have := wholeP_le_sum (L := inL n z R (ns 0) zs) hp
      rw [hok.sum] at this
      exact this
    obtain ⟨ad, cap, rfl⟩ := hu.form
    obtain ⟨ad', cap', rfl⟩ := h.form
    rw [he] at hI
    clear hu h hns hev he hok
    go_enter Tryd.func14, Tryd.ntmps14
    go_wp2_with fail
    refine hI.mono ?_
    rintro e w1 ⟨rfl, hb1⟩
    have HB1 := Hid.mk' hb1
    clear hb1 hI
    go_wp2_with fail
    refine (HCH.out w1 HB1.out).mono ?_
    rintro e w2 ⟨v2, rfl, hv2, hb2⟩
    have hW := Whole_any v2 _ 4096 w2 hv2 HFB.out (by rw [HFL.out]; omega) (by omega) HOK.out.gcd
    have HB2 := Hid.mk' (below_chain HB1.out hb2)
    obtain ⟨a2, c2, hv2e, _⟩ := hv2
    rw [hv2e] at hW ⊢
    clear hb2 hv2e
    go_wp2_with fail
    refine hW.mono ?_
    clear hW
    rintro e w3 ⟨hgood, hbad, hb3⟩
    have HB3 := Hid.mk' (below_chain HB2.out hb3)
    clear hb3
    by_cases hall : ∀ p, p ∈ flatF (ns 0) (inF n z (ns 0) zs) R → wholeP (lcmP (flatF (ns 0) (inF n z (ns 0) zs) R)) p ≤ 4096
    · obtain ⟨v3, rfl, hown3⟩ := hgood hall
      have hnum := numsAt_row (l := whL (flatF (ns 0) (inF n z (ns 0) zs) R)) (by rw [show (whL (flatF (ns 0) (inF n z (ns 0) zs) R)).length = (flatF (ns 0) (inF n z (ns 0) zs) R).length by simp [whL]]; exact hown3)
      rw [HFL.out] at hown3
      obtain ⟨g3, cap3, rfl, hge3, hcap3, hcm3⟩ : ∃ g cap, v3 = .slice (some ⟨g, 0, none⟩) (R * ns 0) cap ∧ w2.heap.size ≤ g ∧ R * ns 0 ≤ cap ∧ cap ≤ maxLen := by
        rcases hown3.2 with ⟨rfl, hx⟩ | ⟨g, cap, cur, rfl, hb, _, hc, hm, _⟩
        · have := Nat.mul_pos h0 hC0
          omega
        · exact ⟨g, cap, rfl, hb, hc, hm⟩
      have hrow : RowAt w3 g3 0 (R * ns 0) (atF (flatL (fun _ => ns 0) (outZ n z R (ns 0) zs) R)) := by
        rw [whL_out] at hnum
        rcases hnum with ⟨_, _, h5, h6⟩ | ⟨b, o, c, h5, h6, h7⟩
        · rw [flatL_length, sumT_constC] at h6
          have := Nat.mul_pos h0 hC0
          omega
        · simp only [Value.slice.injEq, Option.some.injEq, Addr.mk.injEq, and_true] at h5
          obtain ⟨⟨rfl, rfl⟩, h8, _⟩ := h5
          rw [← h8] at h7
          exact h7
      have HCUT : Hid (∀ W, Below w3.heap.size w3 W → Calls Tryd.prog 34 #[.slice (some ⟨g3, 0, none⟩) (R * ns 0) cap3, .int .i64 (ns 0 : Int)] W fun e w' => ∃ v', e = .returned v' ∧ TabIs w' v' R (fun _ => ns 0) (outZ n z R (ns 0) zs) ∧ Below W.heap.size W w') := fun W hb => by
        refine (cutOf_any g3 cap3 R (ns 0) _ W (hrow.later hb) hcap3 h16 hC16 h0 hC0).mono ?_
        rintro e w' ⟨v', rfl, ⟨vs', hv'⟩, hbw⟩
        refine ⟨v', rfl, ⟨vs', ?_⟩, hbw⟩
        rcases hv' with h5 | ⟨b, o, c, h5, h6, h7⟩
        · exact Or.inl h5
        · exact Or.inr ⟨b, o, c, h5, h6, fun i hi => ⟨(h7 i hi).1, (h7 i hi).2.congr fun k hk => flatL_at hi hk⟩⟩
      clear hgood hbad hnum hown3 hrow hcap3 hcm3 hge3 hall
      obtain ⟨rad, rcap, b, o, cap5, hve, hc0⟩ := HC0.out w3 HB3.out
      simp only [Value.slice.injEq, true_and] at hve
      obtain ⟨rfl, rfl⟩ := hve
      generalize hMM : R * ns 0 = M at *
      clear hMM
      go_wp2_with fail
      refine (HCUT.out w3 (Below.refl _ _)).mono ?_
      rintro e w4 ⟨v4, rfl, ⟨vs4, hv4⟩, hb4⟩
      have hTE := TableError_any v4 R vs4 (fun _ => ns 0) _ w4 hv4 (by omega) (by rw [sumT_constC]; exact Nat.le_trans (Nat.mul_le_mul h16 hC16) (by decide))
      rw [HTE.out] at hTE
      obtain ⟨a4, c4, hv4e⟩ := hv4.form
      have HB4 := Hid.mk' hb4
      rw [hv4e] at hTE ⊢
      clear hv4 hb4 hv4e
      by_cases hbig : 4096 < inL n z R (ns 0) zs
      · rw [if_pos hbig] at hTE HTA
        go_wp2_with fail
        refine hTE.mono ?_
        clear hTE
        rintro e w5 ⟨rfl, hb5⟩
        have HB5 := Hid.mk' (below_chain HB3.out (below_chain HB4.out hb5))
        clear hb5
        go_wp2_with fail
        go_ret2
        exact ⟨_, by rw [HTA.out]; rfl, fun _ => rfl, (fun h => by rw [HTA.out] at h; cases h), HB5.out⟩
      · rw [if_neg hbig] at hTE HTA
        go_wp2_with fail
        refine hTE.mono ?_
        clear hTE
        rintro e w5 ⟨rfl, hb5⟩
        have HB35 := Hid.mk' (below_chain HB4.out hb5)
        have HB5 := Hid.mk' (below_chain HB3.out HB35.out)
        have hc5 : w5.cell? ⟨b, o, none⟩ = some (.slice rad (ns 0) rcap) := by rw [HB35.out.cell (cell_lt hc0)]; exact hc0
        clear hb5 hc0
        go_wp2_with fail
        refine (HCUT.out w5 HB35.out).mono ?_
        rintro e w6 ⟨v6, rfl, hv6, hb6⟩
        have HV6 := Hid.mk' hv6
        obtain ⟨vs6, hv6'⟩ := hv6
        obtain ⟨a6, c6, rfl⟩ := hv6'.form
        have HB6 := Hid.mk' (below_chain HB5.out hb6)
        clear hv6' hb6
        go_wp2_with fail
        go_ret2
        exact ⟨_, by rw [HTA.out]; rfl, fun h => absurd HTA.out h, fun _ => HV6.out, HB6.out⟩
    · have hx : ∃ p, p ∈ flatF (ns 0) (inF n z (ns 0) zs) R ∧ 4096 < wholeP (lcmP (flatF (ns 0) (inF n z (ns 0) zs) R)) p := by
        by_cases hex : ∃ p, p ∈ flatF (ns 0) (inF n z (ns 0) zs) R ∧ 4096 < wholeP (lcmP (flatF (ns 0) (inF n z (ns 0) zs) R)) p
        · exact hex
        · exact absurd (fun p hp => by
            rcases Nat.lt_or_ge 4096 (wholeP (lcmP (flatF (ns 0) (inF n z (ns 0) zs) R)) p) with h5 | h5
            · exact absurd ⟨p, hp, h5⟩ hex
            · exact h5) hall
      have e3 := hbad hx
      subst e3
      have hbig : 4096 < inL n z R (ns 0) zs := by
        obtain ⟨p, hp, h5⟩ := hx
        have := HMX.out p hp
        unfold inL at this ⊢
        omega
      rw [if_pos hbig] at HTA
      clear hgood hbad hx hall
      go_wp2_with fail
      go_ret2
      exact ⟨_, by rw [HTA.out]; rfl, fun _ => rfl, (fun h => by rw [HTA.out] at h; cases h), HB3.out⟩
  · have HTA : Hid (taErr n z R ns zs = inErr n z R ns zs) := by show _ = _; unfold taErr; rw [if_pos he]
    obtain ⟨ad, cap, rfl⟩ := hu.form
    obtain ⟨ad', cap', rfl⟩ := h.form
    have HNE := Hid.mk' he
    have hpos : (0 : Int) < (inErr n z R ns zs : Int) := by omega
    generalize inErr n z R ns zs = ie at *
    clear hu h hns he
    go_enter Tryd.func14, Tryd.ntmps14
    go_wp2_with fail
    refine hI.mono ?_
    rintro e w1 ⟨rfl, hb1⟩
    have HB1 := Hid.mk' hb1
    clear hb1 hI
    go_wp2_with fail
    go_ret2
    exact ⟨_, by rw [HTA.out]; rfl, fun _ => rfl, fun h => by rw [HTA.out] at h; exact absurd h HNE.out, HB1.out⟩
end Go.Proofs.YtnihclkaaglnjaaDoor

/- channel.Guess. -/
namespace Go.Proofs.YtnihclkaaglnjaaDoor
open Go.RowKit

def outN (n : Nat) (z : Nat → Int) (R C : Nat) (zs : Nat → Nat → Int) (i k : Nat) : Nat := wholeP (inL n z R C zs) (inF n z C zs i k)
theorem outZ_N (n : Nat) (z : Nat → Int) (R C : Nat) (zs : Nat → Nat → Int) (i k : Nat) : outZ n z R C zs i k = (outN n z R C zs i k : Int) := rfl
theorem InOk.all {n : Nat} {z : Nat → Int} {R C : Nat} {zs : Nat → Nat → Int} (h : InOk n z R C zs) : allN (outN n z R C zs) R C = inL n z R C zs := by
  have := allN_whole (inL n z R C zs) C (inF n z C zs) R
  rw [h.sum] at this
  exact this
theorem tab_rowsAt {w : World} {v : Value} {R C : Nat} {Z : Nat → Nat → Int} (h : TabIs w v R (fun _ => C) Z) (h0 : 0 < R) (hC : 0 < C) : ∃ b o cap, v = .slice (some ⟨b, o, none⟩) R cap ∧ ∀ i, i < R → ∃ rb ro rc, ∀ W, Below w.heap.size w W → W.cell? ⟨b, o + i, none⟩ = some (.slice (some ⟨rb, ro, none⟩) C rc) ∧ ∀ k, k < C → W.cell? ⟨rb, ro + k, none⟩ = some (.int .i64 (Z i k)) := by
  obtain ⟨vs, hv⟩ := h
  rcases hv with ⟨_, _, _, h1⟩ | ⟨b, o, cap, h1, _, h2⟩
  · omega
  · refine ⟨b, o, cap, h1, fun i hi => ?_⟩
    obtain ⟨h3, h4⟩ := h2 i hi
    rcases h4 with ⟨_, _, _, h5⟩ | ⟨rb, ro, rc, h5, _, h6⟩
    · have h5' : C = 0 := h5
      omega
    · refine ⟨rb, ro, rc, fun W hb => ⟨?_, fun k hk => ?_⟩⟩
      · rw [hb.cell (cell_lt h3), h3, h5]
      · rw [hb.cell (cell_lt (h6 k hk))]; exact h6 k hk

set_option maxRecDepth 100000 in
set_option maxHeartbeats 4000000 in
theorem Guess_ok (a : Nat → Addr) (u : Value) (n : Nat) (z : Nat → Int) (v : Value) (R : Nat) (vs : Nat → Value) (ns : Nat → Nat) (zs : Nat → Nat → Int) (w : World) (hE : Errs w a) (hu : NumsAt w u n z) (h : TabAt w v R vs ns zs) (hn : n ≤ 1000) (hR : R ≤ 40) (hns : ∀ i, i < R → ns i ≤ 400) (h0 : taErr n z R ns zs = 0) (S : Nat) (hS : S = rightN (outN n z R (ns 0) zs) R (ns 0)) :
    Calls Tryd.prog 16 #[u, v] w fun e w' => ∃ g, e = .returned (.tuple #[.slice (some ⟨g, 0, none⟩) (ns 0) (ns 0), .agg #[.int .i64 ((lowP (inL n z R (ns 0) zs - S) (inL n z R (ns 0) zs)).1 : Int), .int .i64 ((lowP (inL n z R (ns 0) zs - S) (inL n z R (ns 0) zs)).2 : Int)], .nilIface]) ∧ RowIs w' g (ns 0) (fun k => .int .i64 (lkN (outN n z R (ns 0) zs) k R)) ∧ Below w.heap.size w w' := by
  obtain ⟨W0, hW0⟩ : ∃ W0, W0 = w.alloc (.cells #[.int .i64 0, .int .i64 0] 40) := ⟨_, rfl⟩
  have hb0 : Below w.heap.size w W0 := by rw [hW0]; exact (Below.refl _ _).alloc (Nat.le_refl _) _
  have hres : ∀ W, Below W0.heap.size W0 W → W.cell? ⟨w.heap.size, 0, none⟩ = some (.int .i64 0) ∧ W.cell? ⟨w.heap.size, 1, none⟩ = some (.int .i64 0) ∧ W.frozen? ⟨w.heap.size, 0, none⟩ = false ∧ W.frozen? ⟨w.heap.size, 1, none⟩ = false := fun W hb => by
    rw [hW0] at hb
    exact res_past hb
  have ht := chTable_any a u n z v R vs ns zs W0 (hE.below hb0) (hu.later hb0) (h.later hb0) hn hR hns
  obtain ⟨he, hL4⟩ : inErr n z R ns zs = 0 ∧ inL n z R (ns 0) zs ≤ 4096 := by
    unfold taErr at h0
    by_cases h1 : inErr n z R ns zs ≠ 0
    · rw [if_pos h1] at h0; exact absurd h0 h1
    · rw [if_neg h1] at h0
      by_cases h2 : 4096 < inL n z R (ns 0) zs
      · rw [if_pos h2] at h0; cases h0
      · exact ⟨by omega, by omega⟩
  obtain ⟨hok, _⟩ := inOk_of he
  have hall := hok.all
  have hR0 := hok.n0
  have hR16 := hok.n16
  have hC0 := hok.c0
  have hC16 := hok.c16
  have hLp : 0 < inL n z R (ns 0) zs := lcmP_pos _ fun p hp => by
    obtain ⟨i, k, hi, hk, rfl⟩ := flatF_mem hp
    exact (hok.low hi k).1
  obtain ⟨i0, hi, hz0, hz1, hz2⟩ := info_parts Tryd.infoInt
  have HINF : Hid (Tryd.prog.info? 3 = some i0 ∧ i0.zero = some (.int .i64 0) ∧ i0.size = 1 ∧ i0.bytes = 8) := ⟨hi, hz0, hz1, hz2⟩
  clear hi hz0 hz1 hz2
  rw [h0, errV_zero] at ht
  have HZZ : Hid (∀ i k, outZ n z R (ns 0) zs i k = (outN n z R (ns 0) zs i k : Int)) := fun i k => rfl
  generalize outN n z R (ns 0) zs = Z at *
  generalize inL n z R (ns 0) zs = L at *
  obtain ⟨ad, cap, rfl⟩ := hu.form
  obtain ⟨ad', cap', rfl⟩ := h.form
  have HB0 := Hid.mk' hb0
  have HRES := Hid.mk' hres
  have HW0 := Hid.mk' hW0
  clear hE h hu hb0 hres hW0 hns hok he
  generalize ns 0 = C at *
  have HALL := Hid.mk' hall
  have HSS := Hid.mk' hS
  have HSL : Hid (S ≤ L) := by show _ ≤ _; rw [hS, ← hall]; exact rightN_le Z R C
  have HLOW := Hid.mk' (fun (W : World) => lowest_any ((L - S : Nat) : Int) L W (by omega) (by omega) (by omega) (by omega) (Nat.gcd (L - S) L) (by rw [Int.natAbs_natCast]))
  clear hall hS
  go_enter Tryd.func16, Tryd.ntmps16
  go_upto_region 1 with fail
  rw [← HW0.out]
  go_wp2_with fail
  refine ht.mono ?_
  clear ht
  rintro e w1 ⟨t1, rfl, _, ht1, hb1⟩
  obtain ⟨b, o, cap1, rfl, hrows⟩ := tab_rowsAt (ht1 (by trivial)) hR0 hC0
  have HROW : Hid (∀ i, i < R → ∃ rb ro rc, ∀ W, Below w1.heap.size w1 W → W.cell? ⟨b, o + i, none⟩ = some (.slice (some ⟨rb, ro, none⟩) C rc) ∧ ∀ k, k < C → W.cell? ⟨rb, ro + k, none⟩ = some (.int .i64 (Z i k : Int))) := fun i hi => by
    obtain ⟨rb, ro, rc, h5⟩ := hrows i hi
    exact ⟨rb, ro, rc, fun W hb => ⟨(h5 W hb).1, fun k hk => by rw [(h5 W hb).2 k hk, HZZ.out]⟩⟩
  have HB1 := Hid.mk' hb1
  obtain ⟨rb0, ro0, rc0, hrow0⟩ := HROW.out 0 hR0
  have hc0 := (hrow0 w1 (Below.refl _ _)).1
  rw [Nat.add_zero] at hc0
  clear ht1 hb1 hrows hrow0 HZZ
  go_wp2_with (at_make; go_must (refine wpList_make_full _ rfl _ _ _ rfl w1.heap.size 3 i0 _ 1 Tryd.underlying31 HINF.out.1 HINF.out.2.1 HINF.out.2.2.1 .i64 .i64 _ _ C rfl rfl rfl rfl (by rw [HINF.out.2.2.2]; omega) (by unfold maxLen; omega) (Nat.le_refl _) ?_; intro w2 hown2 hgrow2; have HF2 := Hid.mk' (rowIs_made hown2 (made_one (.int .i64 0) rfl C)); have HB2 := Hid.mk' (made_below hgrow2); clear hown2 hgrow2))
  clear hc0
  go_loopw [10, 11, 34] (fun r s t wr => ∃ (k : Nat) (f : Nat → Value), k ≤ C ∧ t = .int .i64 k ∧ r = .int .i64 (rightN Z R k : Int) ∧ s = .int .i64 (allN Z R k : Int) ∧ Hid (RowIs wr w1.heap.size C f ∧ ∀ j, j < k → f j = .int .i64 (lkN Z j R)) ∧ Hid (Below w1.heap.size w1 wr)) (fun _ _ t _ => C - (intOf t).toNat)
  case atStart => exact ⟨0, _, Nat.zero_le _, rfl, rfl, rfl, ⟨HF2.out, fun j hj => by omega⟩, HB2⟩
  case round =>
    clear HF2 HB2
    obtain ⟨k, f, hk, rfl, rfl, rfl, HF, HB⟩ := hrel
    rcases Nat.lt_or_ge k C with h1 | h1
    · have hkI : (k : Int) < (C : Int) := by omega
      have hk0 : (0 : Int) ≤ (k : Int) := by omega
      have HAK : Hid (allN Z R (k + 1) = allN Z R k + colN Z R k) := rfl
      have HRK : Hid (rightN Z R (k + 1) = rightN Z R k + mxN Z k R) := rfl
      have hakL : allN Z R k + colN Z R k ≤ L := by
        have h5 : allN Z R (k + 1) ≤ allN Z R C := sumW_le h1
        rw [HALL.out, HAK.out] at h5
        exact h5
      have hrkL : rightN Z R k + mxN Z k R ≤ L := by
        have h5 := rightN_le Z R (k + 1)
        rw [HAK.out, HRK.out] at h5
        omega
      go_wp2_with fail
      obtain ⟨wo, hwo⟩ : ∃ wo, wo = wr := ⟨_, rfl⟩
      rw [← hwo] at HF HB ⊢
      clear hwo
      go_loopw [11, 13, 14, 39] (fun s l m t wr => ∃ i : Nat, i ≤ R ∧ t = .int .i64 i ∧ s = .int .i64 ((allN Z R k + colN Z i k : Nat) : Int) ∧ l = .int .i64 (lkN Z k i) ∧ m = .int .i64 (mxN Z k i : Int) ∧ Hid (Below wo.heap.size wo wr)) (fun _ _ _ t _ => R - (intOf t).toNat)
      case atStart => exact ⟨0, Nat.zero_le _, rfl, rfl, rfl, rfl, Below.refl _ _⟩
      case round =>
        obtain ⟨i, hi, rfl, rfl, rfl, rfl, HC⟩ := hrel
        rcases Nat.lt_or_ge i R with h2 | h2
        · have hiI : (i : Int) < (R : Int) := by omega
          have hi0 : (0 : Int) ≤ (i : Int) := by omega
          obtain ⟨rb, ro, rc, hrow⟩ := HROW.out i h2
          obtain ⟨hcr, hce⟩ := hrow wr (below_chain HB.out HC.out)
          have hcc := hce k h1
          have hcrd := (hrow wr.drew (below_chain HB.out HC.out.drew)).1
          have hccd := (hrow wr.drew (below_chain HB.out HC.out.drew)).2 k h1
          have HCS : Hid (colN Z (i + 1) k = colN Z i k + Z i k) := rfl
          have hcl : colN Z i k + Z i k ≤ colN Z R k := sumW_le (f := fun i => Z i k) (k := i + 1) h2
          have hml := mxN_le Z k i
          have HMS : Hid (mxN Z k (i + 1) = if mxN Z k i < Z i k then Z i k else mxN Z k i) := rfl
          have HLS : Hid (lkN Z k (i + 1) = if mxN Z k i < Z i k then (i : Int) else lkN Z k i) := rfl
          clear hrow hce
          generalize allN Z R k = A at *
          generalize colN Z R k = cR at *
          generalize colN Z i k = ci at *
          generalize mxN Z k i = mi at *
          generalize lkN Z k i = li at *
          generalize Z i k = x at *
          by_cases hgt : mi < x
          · have hgI : (mi : Int) < (x : Int) := by omega
            rw [if_pos hgt] at HMS HLS
            go_wp2_with fail
            go_region
            all_goals
              go_wp2_with fail
              exact ⟨⟨i + 1, h2, by go_num, by rw [HCS.out]; go_num, by rw [HLS.out], by rw [HMS.out], HC.out.drew⟩, by simp [intOf]; omega⟩
          · have hgI : ¬ (mi : Int) < (x : Int) := by omega
            rw [if_neg hgt] at HMS HLS
            go_wp2_with fail
            exact ⟨⟨i + 1, h2, by go_num, by rw [HCS.out]; go_num, by rw [HLS.out], by rw [HMS.out], HC⟩, by simp [intOf]; omega⟩
        · obtain rfl : i = R := by omega
          have hF := HF.out.1.later HC.out
          have y0 := hF.row k h1
          have z0 := hF.fz k h1
          have HS : Hid (RowIs (wr.setCell ⟨w1.heap.size, k, none⟩ (.int .i64 (lkN Z k i))) w1.heap.size C (fun j => if j = k then .int .i64 (lkN Z k i) else f j)) := hF.setF h1 _ (fun _ _ => rfl)
          have HBB : Hid (Below w1.heap.size w1 (wr.setCell ⟨w1.heap.size, k, none⟩ (.int .i64 (lkN Z k i)))) := (below_chain HB.out HC.out).setCell (Nat.le_refl _) _
          have HFF : Hid (∀ j, j < k + 1 → (if j = k then Value.int .i64 (lkN Z k i) else f j) = .int .i64 (lkN Z j i)) := fun j hj => by
            by_cases hjk : j = k
            · rw [if_pos hjk, hjk]
            · rw [if_neg hjk]; exact HF.out.2 j (by omega)
          clear hF
          generalize hlk : lkN Z k i = li at y0 z0 HS HBB HFF ⊢
          clear hlk
          generalize rightN Z i k = rk at *
          generalize allN Z i k = ak at *
          generalize mxN Z k i = mk at *
          generalize colN Z i k = ck at *
          go_wp2_with fail
          exact ⟨⟨k + 1, _, h1, by go_num, by rw [HRK.out]; go_num, by rw [HAK.out], ⟨HS.out, HFF.out⟩, HBB⟩, by simp [intOf]; omega⟩
    · obtain rfl : k = C := by omega
      rw [HALL.out, ← HSS.out]
      have hsl := HSL.out
      have hcast : (L : Int) - (S : Int) = ((L - S : Nat) : Int) := by omega
      have hlw := HLOW.out wr
      have hq : ((L - S : Nat) : Int).tdiv (Nat.gcd (L - S) L : Int) = ((L - S) / Nat.gcd (L - S) L : Nat) := by rw [Int.tdiv_eq_ediv_of_nonneg (by omega)]; simp
      rw [hq] at hlw
      have HE1 : Hid ((lowP (L - S) L).1 = (L - S) / Nat.gcd (L - S) L ∧ (lowP (L - S) L).2 = L / Nat.gcd (L - S) L) := ⟨rfl, rfl⟩
      generalize (L - S) / Nat.gcd (L - S) L = pp at *
      generalize L / Nat.gcd (L - S) L = qq at *
      generalize hD : L - S = D at *
      have HDD := Hid.mk' hD
      clear hq hD
      go_wp2_with fail
      refine hlw.mono ?_
      clear hlw
      rintro e w9 ⟨rfl, hb9⟩
      obtain ⟨x0, x1, q0, q1⟩ := HRES.out w9 (below_chain HB1.out (below_chain HB.out hb9))
      have hF := HF.out.1.later hb9
      have HF9 := Hid.mk' hF
      have HB9 := Hid.mk' (below_chain HB0.out (below_chain HB1.out (below_chain HB.out hb9)))
      have HNE : Hid (w1.heap.size ≠ w.heap.size) := by
        have h5 : w.heap.size < W0.heap.size := by rw [HW0.out]; simp
        have := HB1.out.size
        show _ ≠ _
        omega
      clear hb9 hF
      go_wp2_with fail
      refine bodyPost_ret (v := .tuple #[.slice (some ⟨w1.heap.size, 0, none⟩) k k, .agg #[.int .i64 (pp : Int), .int .i64 (qq : Int)], .nilIface]) (by simp [results, Tryd.results16, go_sem, x0, x1]) rfl ⟨w1.heap.size, by rw [HDD.out, HE1.out.1, HE1.out.2], ⟨fun j hj => ?_, fun j hj => ?_⟩, ?_⟩
      · rw [World.cell?_setCell_other _ _ _ _ (fun e => HNE.out (congrArg Addr.block e).symm), World.cell?_setCell_other _ _ _ _ (fun e => HNE.out (congrArg Addr.block e).symm), HF9.out.row j hj, HF.out.2 j hj]
      · rw [World.frozen?_setCell, World.frozen?_setCell]; exact HF9.out.fz j hj
      · exact (HB9.out.setCell (by simp) _).setCell (by simp) _
set_option maxRecDepth 100000 in
set_option maxHeartbeats 1000000 in
theorem Guess_bad (a : Nat → Addr) (u : Value) (n : Nat) (z : Nat → Int) (v : Value) (R : Nat) (vs : Nat → Value) (ns : Nat → Nat) (zs : Nat → Nat → Int) (w : World) (hE : Errs w a) (hu : NumsAt w u n z) (h : TabAt w v R vs ns zs) (hn : n ≤ 1000) (hR : R ≤ 40) (hns : ∀ i, i < R → ns i ≤ 400) (h0 : taErr n z R ns zs ≠ 0) :
    Calls Tryd.prog 16 #[u, v] w fun e w' => e = .returned (.tuple #[.slice none 0 0, .agg #[.int .i64 0, .int .i64 0], errV a (taErr n z R ns zs)]) ∧ Below w.heap.size w w' := by
  obtain ⟨W0, hW0⟩ : ∃ W0, W0 = w.alloc (.cells #[.int .i64 0, .int .i64 0] 40) := ⟨_, rfl⟩
  have hb0 : Below w.heap.size w W0 := by rw [hW0]; exact (Below.refl _ _).alloc (Nat.le_refl _) _
  have hres : ∀ W, Below W0.heap.size W0 W → W.cell? ⟨w.heap.size, 0, none⟩ = some (.int .i64 0) ∧ W.cell? ⟨w.heap.size, 1, none⟩ = some (.int .i64 0) ∧ W.frozen? ⟨w.heap.size, 0, none⟩ = false ∧ W.frozen? ⟨w.heap.size, 1, none⟩ = false := fun W hb => by
    rw [hW0] at hb
    exact res_past hb
  have ht := chTable_any a u n z v R vs ns zs W0 (hE.below hb0) (hu.later hb0) (h.later hb0) hn hR hns
  rw [errV_pos a h0] at ht ⊢
  generalize a (taErr n z R ns zs - 1) = ea at ht ⊢
  obtain ⟨ad, cap, rfl⟩ := hu.form
  obtain ⟨ad', cap', rfl⟩ := h.form
  have HB0 := Hid.mk' hb0
  have HRES := Hid.mk' hres
  have HW0 := Hid.mk' hW0
  clear hE h hu hb0 hres hW0 hns
  go_enter Tryd.func16, Tryd.ntmps16
  go_upto_region 1 with fail
  rw [← HW0.out]
  go_wp2_with fail
  refine ht.mono ?_
  clear ht
  rintro e w1 ⟨t1, rfl, ht1, _, hb1⟩
  obtain rfl := ht1 h0
  obtain ⟨x0, x1, q0, q1⟩ := HRES.out w1 hb1
  have HB1 := Hid.mk' (below_chain HB0.out hb1)
  clear ht1 hb1 h0
  go_wp2_with fail
  refine bodyPost_ret (v := .tuple #[.slice none 0 0, .agg #[.int .i64 0, .int .i64 0], .iface 132 (.pointer (some ea))]) (by simp [results, Tryd.results16, go_sem, x0, x1]) rfl ⟨rfl, ?_⟩
  exact (HB1.out.setCell (by simp) _).setCell (by simp) _
end Go.Proofs.YtnihclkaaglnjaaDoor

/- The document's guesses. -/
namespace Go.Proofs.YtnihclkaaglnjaaDoor
open Go.RowKit

theorem RtAt.cells3 {w : World} {ad : Option Addr} {n cap : Nat} {l : List (Nat × Nat)} (h : RtAt w (.slice ad n cap) l) {i : Nat} {p : Nat × Nat} (hp : l[i]? = some p) : ∃ b o a1 l1 c1 a2 l2 c2, ad = some ⟨b, o, none⟩ ∧ w.cell? ⟨b, o + i * 3, none⟩ = some (.bool false) ∧ w.cell? ⟨b, o + i * 3 + 1, none⟩ = some (.slice a1 l1 c1) ∧ w.cell? ⟨b, o + i * 3 + 2, none⟩ = some (.slice a2 l2 c2) ∧ BigAt w (.slice a1 l1 c1) p.1 ∧ BigAt w (.slice a2 l2 c2) p.2 := by
  obtain ⟨ad', cap', hv, hr⟩ := h
  simp only [Value.slice.injEq] at hv
  obtain ⟨rfl, _, rfl⟩ := hv
  obtain ⟨b, o, u, q, e, h0, h1, h2, h3, h4⟩ := hr i p hp
  obtain ⟨a1, l1, c1, rfl, _⟩ := h3.len
  obtain ⟨a2, l2, c2, rfl, _⟩ := h4.len
  exact ⟨b, o, a1, l1, c1, a2, l2, c2, e, h0, h1, h2, h3, h4⟩
theorem rowL_snoc (z : Nat → Int) (k : Nat) : rowL z (k + 1) = rowL z k ++ [z k] := by
  unfold rowL; rw [List.range_succ]; simp
theorem mxN_bound {Z : Nat → Nat → Nat} {R C k i L : Nat} (hall : allN Z R C = L) (hk : k < C) (hi : i ≤ R) : mxN Z k i ≤ L ∧ ∀ j, j < R → Z j k ≤ L := by
  have h1 : colN Z R k ≤ L := by
    have h5 : allN Z R (k + 1) ≤ allN Z R C := sumW_le hk
    have h6 : allN Z R (k + 1) = allN Z R k + colN Z R k := rfl
    omega
  have h2 := mxN_le Z k i
  have h3 : colN Z i k ≤ colN Z R k := sumW_le (f := fun i => Z i k) hi
  refine ⟨by omega, fun j hj => ?_⟩
  have h4 : colN Z j k + Z j k ≤ colN Z R k := sumW_le (f := fun i => Z i k) (k := j + 1) hj
  omega

set_option maxRecDepth 100000 in
set_option maxHeartbeats 8000000 in
theorem GuessOf_any (u : Value) (n : Nat) (z : Nat → Int) (v : Value) (R : Nat) (vs : Nat → Value) (ns : Nat → Nat) (zs : Nat → Nat → Int) (w : World) (hu : NumsAt w u n z) (h : TabAt w v R vs ns zs) (he : inErr n z R ns zs = 0) (hL4 : inL n z R (ns 0) zs ≤ 4096) (S : Nat) (hS : S = rightN (outN n z R (ns 0) zs) R (ns 0)) :
    Calls Tryd.prog 17 #[u, v] w fun e w' => ∃ o' a1 l1 c1 a2 l2 c2, e = .returned (.tuple #[o', .agg #[.bool false, .slice a1 l1 c1, .slice a2 l2 c2]]) ∧ NumsAt w' o' (ns 0) (fun k => lkN (outN n z R (ns 0) zs) k R) ∧ BigAt w' (.slice a1 l1 c1) (lowP (inL n z R (ns 0) zs - S) (inL n z R (ns 0) zs)).1 ∧ BigAt w' (.slice a2 l2 c2) (lowP (inL n z R (ns 0) zs - S) (inL n z R (ns 0) zs)).2 ∧ Below w.heap.size w w' := by
  obtain ⟨W0, hW0⟩ : ∃ W0, W0 = w.alloc (.cells #[.bool false, .slice none 0 0, .slice none 0 0] 47) := ⟨_, rfl⟩
  have hb0 : Below w.heap.size w W0 := by rw [hW0]; exact (Below.refl _ _).alloc (Nat.le_refl _) _
  have hres : ∀ W, Below W0.heap.size W0 W → W.cell? ⟨w.heap.size, 0, none⟩ = some (.bool false) ∧ W.cell? ⟨w.heap.size, 1, none⟩ = some (.slice none 0 0) ∧ W.cell? ⟨w.heap.size, 2, none⟩ = some (.slice none 0 0) ∧ W.frozen? ⟨w.heap.size, 0, none⟩ = false ∧ W.frozen? ⟨w.heap.size, 1, none⟩ = false ∧ W.frozen? ⟨w.heap.size, 2, none⟩ = false := fun W hb => by
    have hc : ∀ j x, W0.cell? ⟨w.heap.size, j, none⟩ = some x → W.cell? ⟨w.heap.size, j, none⟩ = some x := fun j x hx => by rw [hb.cell (cell_lt hx)]; exact hx
    have hf : ∀ j x, W0.cell? ⟨w.heap.size, j, none⟩ = some x → W0.frozen? ⟨w.heap.size, j, none⟩ = false → W.frozen? ⟨w.heap.size, j, none⟩ = false := fun j x hx hy => by rw [hb.frozen (cell_lt hx)]; exact hy
    have c0 : W0.cell? ⟨w.heap.size, 0, none⟩ = some (.bool false) := by rw [hW0]; simp
    have c1 : W0.cell? ⟨w.heap.size, 1, none⟩ = some (.slice none 0 0) := by rw [hW0]; simp
    have c2 : W0.cell? ⟨w.heap.size, 2, none⟩ = some (.slice none 0 0) := by rw [hW0]; simp
    exact ⟨hc 0 _ c0, hc 1 _ c1, hc 2 _ c2, hf 0 _ c0 (by rw [hW0]; simp), hf 1 _ c1 (by rw [hW0]; simp), hf 2 _ c2 (by rw [hW0]; simp)⟩
  have hch := Chances_any u n z v R vs ns zs W0 (hu.later hb0) (h.later hb0) he
  obtain ⟨hok, _⟩ := inOk_of he
  have hall := hok.all
  have hR0 := hok.n0
  have hR16 := hok.n16
  have hC0 := hok.c0
  have hC16 := hok.c16
  have hLp : 0 < inL n z R (ns 0) zs := lcmP_pos _ fun p hp => by
    obtain ⟨i, k, hi, hk, rfl⟩ := flatF_mem hp
    exact (hok.low hi k).1
  have HFE : Hid (∀ i k, i < R → k < ns 0 → inF n z (ns 0) zs i k = lowP (outN n z R (ns 0) zs i k) (inL n z R (ns 0) zs)) := fun i k hi hk => (lowP_whole (hok.low hi k) (lcmP_dvd _ _ (List.mem_of_getElem? (flatF_get hi hk))) hLp).symm
  have HC0 : Hid (∀ W, Below w.heap.size w W → ∃ rad rcap b o cap, v = .slice (some ⟨b, o, none⟩) R cap ∧ W.cell? ⟨b, o, none⟩ = some (.slice rad (ns 0) rcap)) := fun W hb => by
    rcases h.later hb with ⟨_, _, _, h1⟩ | ⟨b, o, cap, h1, _, h2⟩
    · omega
    · obtain ⟨h3, h4⟩ := h2 0 hR0
      obtain ⟨rad, rcap, hre⟩ := h4.form
      rw [hre, Nat.add_zero] at h3
      exact ⟨rad, rcap, b, o, cap, h1, h3⟩
  obtain ⟨i0, hi, hz0, hz1, hz2⟩ := info_parts Tryd.infoInt
  have HINF : Hid (Tryd.prog.info? 3 = some i0 ∧ i0.zero = some (.int .i64 0) ∧ i0.size = 1 ∧ i0.bytes = 8) := ⟨hi, hz0, hz1, hz2⟩
  clear hi hz0 hz1 hz2
  obtain ⟨ad, cap, rfl⟩ := hu.form
  obtain ⟨ad', cap', rfl⟩ := h.form
  have HB0 := Hid.mk' hb0
  have HRES := Hid.mk' hres
  have HW0 := Hid.mk' hW0
  clear h hu hb0 hres hW0 hok he
  generalize outN n z R (ns 0) zs = Z at *
  generalize inL n z R (ns 0) zs = L at *
  generalize inF n z (ns 0) zs = fF at *
  generalize ns 0 = C at *
  have HALL := Hid.mk' hall
  have HSS := Hid.mk' hS
  have HL1 : Hid (lowP L L = lowP 1 1 ∧ lowP 0 L = lowP 0 1) := by
    refine ⟨?_, ?_⟩
    · have := lowP_scale (a := 1) (b := 1) hLp
      rw [Nat.mul_one] at this
      exact this
    · have := lowP_scale (a := 0) (b := 1) hLp
      rw [Nat.mul_one, Nat.mul_zero] at this
      exact this
  clear hall hS
  go_enter Tryd.func17, Tryd.ntmps17
  go_upto_region 1 with fail
  rw [← HW0.out]
  go_wp2_with fail
  refine hch.mono ?_
  clear hch
  rintro e w1 ⟨v1, rfl, hv1, hb1⟩
  have HV1 := Hid.mk' hv1
  have HB1 := Hid.mk' hb1
  have hB01 := below_chain HB0.out hb1
  have HB01 := Hid.mk' hB01
  obtain ⟨rad, rcap, b, o, cap5, hve, hc0⟩ := HC0.out w1 hB01
  simp only [Value.slice.injEq, true_and] at hve
  obtain ⟨rfl, rfl⟩ := hve
  obtain ⟨adl, capl, rfl, _⟩ := hv1
  clear hb1 hB01
  generalize hM : (flatF C fF R).length = M at *
  have HM : Hid (M = R * C) := by show _ = _; rw [← hM, flatF_length]
  clear hM
  go_wp2_with fail
  refine (RatioOf_parts 1 1 w1 (by decide) (by decide) (by decide)).mono ?_
  rintro e w2 ⟨a1, l1, c1, a2, l2, c2, rfl, h1, h2, hb2⟩
  have HG0 : Hid (GBox w1 (w2.alloc (.cells #[.bool false, .slice a1 l1 c1, .slice a2 l2 c2] 47)) w2.heap.size (lowP (L - rightN Z R 0) L).1 (lowP (L - rightN Z R 0) L).2) := by
    have e0 : L - rightN Z R 0 = L := rfl
    rw [e0, HL1.out.1]
    exact gBox_new hb2 h1 h2
  clear h1 h2 hb2 hc0
  go_wp2_with fail
  go_loopw [9, 10] (fun s t wr => ∃ k : Nat, k ≤ C ∧ t = .int .i64 k ∧ Hid (wr.ownsRow w1.heap.size 3 1 s k (cellL (rowL (fun k => lkN Z k R) k))) ∧ Hid (Spare0 wr s k) ∧ Hid (GBox w1 wr w2.heap.size (lowP (L - rightN Z R k) L).1 (lowP (L - rightN Z R k) L).2)) (fun _ t _ => C - (intOf t).toNat)
  case atStart => exact ⟨0, Nat.zero_le _, rfl, World.ownsRow_nil _ _ _ _, spare0_nil _, HG0⟩
  case round =>
    clear HG0
    obtain ⟨k, hk, rfl, HO, HSP, HG⟩ := hrel
    rcases Nat.lt_or_ge k C with h1 | h1
    · have hkI : (k : Int) < (C : Int) := by omega
      have hk0 : (0 : Int) ≤ (k : Int) := by omega
      obtain ⟨wo, hwo⟩ : ∃ wo, wo = wr := ⟨_, rfl⟩
      rw [← hwo] at HO HSP HG ⊢
      clear hwo
      go_wp2_with fail
      refine (RatioOf_parts 0 1 wo (by decide) (by decide) (by decide)).mono ?_
      rintro e w3 ⟨a3, l3, c3, a4, l4, c4, rfl, h3, h4, hb3⟩
      have HGM : Hid (GBox wo (w3.alloc (.cells #[.bool false, .slice a3 l3 c3, .slice a4 l4 c4] 47)) w3.heap.size (lowP (mxN Z k 0) L).1 (lowP (mxN Z k 0) L).2) := by
        have e0 : mxN Z k 0 = 0 := rfl
        rw [e0, HL1.out.2]
        exact gBox_new hb3 h3 h4
      clear h3 h4 hb3
      go_wp2_with fail
      go_loopw [11, 13] (fun s t wr => ∃ i : Nat, i ≤ R ∧ t = .int .i64 i ∧ s = .int .i64 (lkN Z k i) ∧ Hid (GBox wo wr w3.heap.size (lowP (mxN Z k i) L).1 (lowP (mxN Z k i) L).2)) (fun _ t _ => R - (intOf t).toNat)
      case atStart => exact ⟨0, Nat.zero_le _, rfl, rfl, HGM⟩
      case round =>
        clear HGM
        obtain ⟨i, hi, rfl, rfl, HGM⟩ := hrel
        rcases Nat.lt_or_ge i R with h2 | h2
        · have hiI : (i : Int) < (R : Int) := by omega
          have hi0 : (0 : Int) ≤ (i : Int) := by omega
          have hic : i * C ≤ 256 := Nat.le_trans (Nat.mul_le_mul (show i ≤ 16 by omega) hC16) (by decide)
          have hicM : i * C + C ≤ M := by rw [HM.out, ← Nat.succ_mul]; exact Nat.mul_le_mul_right _ h2
          have hM256 : M ≤ 256 := by rw [HM.out]; exact Nat.le_trans (Nat.mul_le_mul hR16 hC16) (by decide)
          obtain ⟨lb, lo, b1, n1, k1, b2, n2, k2, rfl, y0, y1, y2, hy1, hy2⟩ := (HV1.out.later (below_chain HG.out.below HGM.out.below)).cells3 (flatF_get (f := fF) h2 h1)
          rw [HFE.out i k h2 h1] at hy1 hy2
          obtain ⟨hmb, hzb⟩ := mxN_bound (i := i) HALL.out h1 hi
          have hzb' := hzb i h2
          obtain ⟨d1, m1, p1, d2, m2, p2, x0, x1, x2, hx1, hx2⟩ := HGM.out.box
          have hf0 := HGM.out.f0
          have hf1 := HGM.out.f1
          have hf2 := HGM.out.f2
          have HMS : Hid (mxN Z k (i + 1) = if mxN Z k i < Z i k then Z i k else mxN Z k i) := rfl
          have HLS : Hid (lkN Z k (i + 1) = if mxN Z k i < Z i k then (i : Int) else lkN Z k i) := rfl
          have HY1 := Hid.mk' hy1
          have HY2 := Hid.mk' hy2
          have HX1 := Hid.mk' hx1
          have HX2 := Hid.mk' hx2
          have hcur0 : Below wr.heap.size wr wr := Below.refl _ _
          have hcur : Below wr.heap.size wr wr.drew := (Below.refl _ _).drew
          have HCM := Hid.mk' (Cmp_lowP _ _ _ _ (Z i k) (mxN Z k i) L wr.drew (hy1.later hcur) (hy2.later hcur) (hx1.later hcur) (hx2.later hcur) hLp (by omega) (by omega) (by omega))
          have HKS : Hid (∀ W, Below wr.heap.size wr W → W.cell? ⟨lb, lo + (i * C + k) * 3, none⟩ = some (.bool false) ∧ W.cell? ⟨lb, lo + (i * C + k) * 3 + 1, none⟩ = some (.slice b1 n1 k1) ∧ W.cell? ⟨lb, lo + (i * C + k) * 3 + 2, none⟩ = some (.slice b2 n2 k2) ∧ W.cell? ⟨w3.heap.size, 0, none⟩ = some (.bool false) ∧ W.cell? ⟨w3.heap.size, 1, none⟩ = some (.slice d1 m1 p1) ∧ W.cell? ⟨w3.heap.size, 2, none⟩ = some (.slice d2 m2 p2)) := fun W hb => by
            have hc : ∀ q x, wr.cell? q = some x → W.cell? q = some x := fun q x hx => by rw [hb.cell (cell_lt hx)]; exact hx
            exact ⟨hc _ _ y0, hc _ _ y1, hc _ _ y2, hc _ _ x0, hc _ _ x1, hc _ _ x2⟩
          have HFR : Hid (∀ W, Below wr.heap.size wr W → W.frozen? ⟨w3.heap.size, 0, none⟩ = false ∧ W.frozen? ⟨w3.heap.size, 1, none⟩ = false ∧ W.frozen? ⟨w3.heap.size, 2, none⟩ = false) := fun W hb => ⟨by rw [hb.frozen (cell_lt x0)]; exact hf0, by rw [hb.frozen (cell_lt x1)]; exact hf1, by rw [hb.frozen (cell_lt x2)]; exact hf2⟩
          clear hy1 hy2 hx1 hx2 hzb
          have hcast : (i : Int) * (C : Int) = ((i * C : Nat) : Int) := by simp
          have hwr : IntKind.i64.wrap ((i * C : Nat) : Int) = ((i * C : Nat) : Int) := wrapc_nat (by omega) (by omega)
          have hcast2 : ((i * C : Nat) : Int) + (k : Int) = ((i * C + k : Nat) : Int) := by simp
          have hwr2 : IntKind.i64.wrap ((i * C + k : Nat) : Int) = ((i * C + k : Nat) : Int) := wrapc_nat (by omega) (by omega)
          have hJ : ((i * C + k : Nat) : Int) < (M : Int) := by omega
          generalize i * C + k = J at *
          generalize i * C = ic at *
          have hJ0 : (0 : Int) ≤ (J : Int) := by omega
          by_cases hgt : mxN Z k i < Z i k
          · rw [if_pos hgt] at HMS HLS
            go_wp2_with fail
            go_region_held3 (fun W => W.cell? ⟨lb, lo + J * 3, none⟩ = some (.bool false) ∧ W.cell? ⟨lb, lo + J * 3 + 1, none⟩ = some (.slice b1 n1 k1) ∧ W.cell? ⟨lb, lo + J * 3 + 2, none⟩ = some (.slice b2 n2 k2) ∧ W.cell? ⟨w3.heap.size, 0, none⟩ = some (.bool false) ∧ W.cell? ⟨w3.heap.size, 1, none⟩ = some (.slice d1 m1 p1) ∧ W.cell? ⟨w3.heap.size, 2, none⟩ = some (.slice d2 m2 p2))
              (first | exact HKS.out _ hcur0 | exact HKS.out _ hcur | exact HKS.out _ hbw1)
              (first
                | (go_at_call 37; refine HCM.out.mono ?_; rintro e w4 ⟨⟨cc, rfl, hcc⟩, hb4⟩; have hbw1 := below_chain hcur hb4; have hcp := hcc.2 hgt; clear hb4 hcc))
            obtain ⟨r0, r1, r2, t0, t1, t2⟩ := HKS.out _ hbw1
            obtain ⟨g0, g1, g2⟩ := HFR.out _ hbw1
            have HP := Hid.mk' (gBox_put (W0 := wo) (B := w3.heap.size) (below_chain HGM.out.below hbw1) HGM.out.hB g0 g1 g2 t0 t1 t2 (HY1.out.later hbw1) (HY2.out.later hbw1))
            clear y0 y1 y2 x0 x1 x2 hf0 hf1 hf2
            go_wp2_with fail
            exact ⟨⟨i + 1, h2, by go_num, by rw [HLS.out], by rw [HMS.out]; exact HP⟩, by simp [intOf]; omega⟩
          · rw [if_neg hgt] at HMS HLS
            go_wp2_with fail
            go_region_held3 (fun W => W.cell? ⟨lb, lo + J * 3, none⟩ = some (.bool false) ∧ W.cell? ⟨lb, lo + J * 3 + 1, none⟩ = some (.slice b1 n1 k1) ∧ W.cell? ⟨lb, lo + J * 3 + 2, none⟩ = some (.slice b2 n2 k2) ∧ W.cell? ⟨w3.heap.size, 0, none⟩ = some (.bool false) ∧ W.cell? ⟨w3.heap.size, 1, none⟩ = some (.slice d1 m1 p1) ∧ W.cell? ⟨w3.heap.size, 2, none⟩ = some (.slice d2 m2 p2))
              (first | exact HKS.out _ hcur0 | exact HKS.out _ hcur | exact HKS.out _ hbw1)
              (first
                | (go_at_call 37; refine HCM.out.mono ?_; rintro e w4 ⟨⟨cc, rfl, hcc⟩, hb4⟩; have hbw1 := below_chain hcur hb4; have hcp : decide (0 < cc) = false := decide_eq_false (fun h => hgt (hcc.1 h)); clear hb4 hcc))
            have HP := Hid.mk' (HGM.out.later hbw1)
            go_wp2_with fail
            exact ⟨⟨i + 1, h2, by go_num, by rw [HLS.out], by rw [HMS.out]; exact HP⟩, by simp [intOf]; omega⟩
        · obtain rfl : i = R := by omega
          obtain ⟨d1, m1, p1, d2, m2, p2, x0, x1, x2, hx1, hx2⟩ := HGM.out.box
          have HG2 := Hid.mk' (HG.out.later HGM.out.below)
          obtain ⟨e1, q1, s1, e2, q2, s2, y0, y1, y2, hy1, hy2⟩ := HG2.out.box
          have HRK : Hid (L - rightN Z i k - mxN Z k i = L - rightN Z i (k + 1)) := by
            have e : rightN Z i (k + 1) = rightN Z i k + mxN Z k i := rfl
            show _ = _
            omega
          have hle : mxN Z k i ≤ L - rightN Z i k := by
            have h5 : rightN Z i (k + 1) ≤ allN Z i C := Nat.le_trans (rightN_le Z i (k + 1)) (sumW_le h1)
            rw [HALL.out] at h5
            have e : rightN Z i (k + 1) = rightN Z i k + mxN Z k i := rfl
            omega
          have HMI := Hid.mk' (Minus_lowP _ _ _ _ (L - rightN Z i k) (mxN Z k i) L wr hy1 hy2 hx1 hx2 hLp hle (by omega) (by omega))
          rw [HRK.out] at HMI
          clear hx1 hx2 hy1 hy2 hle
          have HO2 := Hid.mk' (own_past HO.out HGM.out.below)
          have HSP2 := Hid.mk' (HSP.out.later (fun g hg => (HO.out.lt g hg).2) HGM.out.below)
          go_wp2_with fail
          refine HMI.out.mono ?_
          rintro e w5 ⟨a5, l5, c5, a6, l6, c6, rfl, h5, h6, hb5⟩
          have HG5 := Hid.mk' (HG2.out.later hb5)
          have hg0 := HG5.out.f0
          have hg1 := HG5.out.f1
          have hg2 := HG5.out.f2
          have z0 : w5.cell? ⟨w2.heap.size, 0, none⟩ = some (.bool false) := by rw [hb5.cell (cell_lt y0)]; exact y0
          have z1 : w5.cell? ⟨w2.heap.size, 1, none⟩ = some (.slice e1 q1 s1) := by rw [hb5.cell (cell_lt y1)]; exact y1
          have z2 : w5.cell? ⟨w2.heap.size, 2, none⟩ = some (.slice e2 q2 s2) := by rw [hb5.cell (cell_lt y2)]; exact y2
          have HP6 := Hid.mk' (gBox_put (W0 := w1) (B := w2.heap.size) HG5.out.below HG5.out.hB hg0 hg1 hg2 z0 z1 z2 h5 h6)
          have HO5 := Hid.mk' (own_past HO2.out hb5)
          have HSP5 := Hid.mk' (HSP2.out.later (fun g hg => (HO2.out.lt g hg).2) hb5)
          have hne := own_not_box (by rw [rowL_length]) HO5.out HSP5.out z0
          obtain ⟨W6, hW6⟩ : ∃ W6, W6 = ((w5.setCell ⟨w2.heap.size, 0, none⟩ (.bool false)).setCell ⟨w2.heap.size, 1, none⟩ (.slice a5 l5 c5)).setCell ⟨w2.heap.size, 2, none⟩ (.slice a6 l6 c6) := ⟨_, rfl⟩
          have HO6 : Hid (W6.ownsRow w1.heap.size 3 1 u9 k (cellL (rowL (fun k => lkN Z k i) k))) := by rw [hW6]; exact own_put (own_put (own_put HO5.out _ _ hne) _ _ hne) _ _ hne
          have HSP6 : Hid (Spare0 W6 u9 k) := by rw [hW6]; exact ((HSP5.out.put _ _ hne).put _ _ hne).put _ _ hne
          rw [← hW6] at HP6
          have HW6 := Hid.mk' hW6
          have HPA := Hid.mk' (HP6.out.later ((Below.refl _ _).alloc (Nat.le_refl _) (.cells #[.int .i64 (lkN Z k i)] 3)))
          have HSPA := Hid.mk' (HSP6.out.later (fun g hg => (HO6.out.lt g hg).2) ((Below.refl _ _).alloc (Nat.le_refl _) (.cells #[.int .i64 (lkN Z k i)] 3)))
          have hbz := HP6.out.below.size
          have HRS : Hid (rowL (fun k => lkN Z k i) (k + 1) = rowL (fun k => lkN Z k i) k ++ [lkN Z k i]) := rowL_snoc _ k
          clear h5 h6 hb5 hW6 x0 x1 x2 y0 y1 y2 hne
          go_upto_region 17 with fail
          rw [← HW6.out]
          clear z0 z1 z2 hg0 hg1 hg2
          generalize hlk : lkN Z k i = li at HPA HSPA HRS ⊢
          clear hlk
          go_wp2_with (at_builtin; go_must (refine wpList_append_spare _ rfl _ _ _ rfl w1.heap.size 3 i0 _ 8 Tryd.underlying31 HINF.out rfl u9 _ _ rfl (HO6.out.alloc _) ⟨W6.heap.size, 0, none⟩ 1 1 [.int .i64 li] rfl rfl (one_new _ _ _) (by simp [Value.oneCell']) (by omega) (by omega) (by omega) (by simp; omega) HSPA.out ?_; intro g' cap2 w8 hown8 hgrow8 hsp8 hkeep8; have HO8 := Hid.mk' hown8; have HSP8 := Hid.mk' hsp8; have HB8 := Hid.mk' (below_push HP6.out.below HO6.out hgrow8); have HG8 := Hid.mk' (HPA.out.grown (by rw [rowL_length]) (HO6.out.alloc _) HSPA.out HB8.out hgrow8 hkeep8); clear hown8 hgrow8 hsp8 hkeep8))
          refine ⟨⟨k + 1, h1, by go_num, ?_, HSP8, HG8⟩, by simp [intOf]; omega⟩
          rw [HRS.out, cellL_append]
          exact HO8
    · obtain rfl : k = C := by omega
      rw [← HSS.out] at HG
      obtain ⟨e1, q1, s1, e2, q2, s2, y0, y1, y2, hy1, hy2⟩ := HG.out.box
      obtain ⟨x0, x1, x2, f0, f1, f2⟩ := HRES.out wr (below_chain HB1.out HG.out.below)
      have HY1 := Hid.mk' hy1
      have HY2 := Hid.mk' hy2
      have HNM := Hid.mk' (numsAt_row (l := rowL (fun k => lkN Z k R) k) (by rw [rowL_length]; exact HO.out))
      have HLT : Hid (w.heap.size < w1.heap.size) := by
        have h5 : w.heap.size < W0.heap.size := by rw [HW0.out]; simp
        have := HB1.out.size
        show _ < _
        omega
      have hne : w.heap.size ≠ w2.heap.size := by have := HLT.out; have := HG.out.hB; omega
      have HBW := Hid.mk' (below_chain HB01.out HG.out.below)
      clear hy1 hy2
      have HX : Hid (wr.cell? ⟨w.heap.size, 0, none⟩ = some (.bool false) ∧ wr.cell? ⟨w.heap.size, 1, none⟩ = some (.slice none 0 0) ∧ wr.cell? ⟨w.heap.size, 2, none⟩ = some (.slice none 0 0)) := ⟨x0, x1, x2⟩
      clear HSP HC0 HFE HV1 HSS HALL HM HW0 HL1 HNM
      go_wp2_with fail
      go_region
      all_goals
        go_wp2_with fail
        have hbd : ∀ W : World, Below W.heap.size W W.drew := fun W => (Below.refl _ _).drew
        have hbig : ∀ (q : Value) (N : Nat), BigAt wr q N → BigAt (((wr.setCell ⟨w.heap.size, 0, none⟩ (.bool false)).setCell ⟨w.heap.size, 1, none⟩ (.slice e1 q1 s1)).setCell ⟨w.heap.size, 2, none⟩ (.slice e2 q2 s2)).drew q N := fun q N hq => by
          obtain ⟨x0, x1, x2⟩ := HX.out
          have g1 : (wr.setCell ⟨w.heap.size, 0, none⟩ (.bool false)).cell? ⟨w.heap.size, 1, none⟩ = some (.slice none 0 0) := by rw [World.cell?_setCell_other _ _ _ _ (by simp)]; exact x1
          have g2 : ((wr.setCell ⟨w.heap.size, 0, none⟩ (.bool false)).setCell ⟨w.heap.size, 1, none⟩ (.slice e1 q1 s1)).cell? ⟨w.heap.size, 2, none⟩ = some (.slice none 0 0) := by rw [World.cell?_setCell_other _ _ _ _ (by simp), World.cell?_setCell_other _ _ _ _ (by simp)]; exact x2
          exact (((hq.over1 x0 (by simp)).over1 g1 (by simp)).over1 g2 (by simp)).later (hbd _)
        have hnb : u9.ownBlock ≠ some w.heap.size := fun e => by have h5 := (HO.out.lt _ e).1; have := HLT.out; omega
        refine bodyPost_ret (v := .tuple #[u9, .agg #[.bool false, .slice e1 q1 s1, .slice e2 q2 s2]]) (by simp [results, Tryd.results17, go_sem, x0, x1, x2]) rfl ⟨u9, e1, q1, s1, e2, q2, s2, rfl, ?_, hbig _ _ HY1.out, hbig _ _ HY2.out, ?_⟩
        · have h5 := (own_put (own_put (own_put HO.out ⟨w.heap.size, 0, none⟩ (.bool false) hnb) ⟨w.heap.size, 1, none⟩ (.slice e1 q1 s1) hnb) ⟨w.heap.size, 2, none⟩ (.slice e2 q2 s2) hnb).drew
          have h6 := numsAt_row (l := rowL (fun k => lkN Z k R) k) (by rw [rowL_length]; exact h5)
          rw [rowL_length] at h6
          exact h6.congr fun j hj => atF_rowL hj
        · exact (((HBW.out.setCell (by simp) _).setCell (by simp) _).setCell (by simp) _).drew
end Go.Proofs.YtnihclkaaglnjaaDoor

/- The document's Told of a fraction. -/
namespace Go.Proofs.YtnihclkaaglnjaaDoor
open Go.RowKit

theorem cmpOf_le {a b : Nat} (h : a ≤ b) : cmpOf a b ≤ 0 := by
  unfold cmpOf
  split
  · omega
  · split
    · omega
    · omega

set_option maxRecDepth 100000 in
set_option maxHeartbeats 2000000 in
theorem RTold_ok (v : Value) (m d : Nat) (w : World) (h : RatioAt w v (m : Int) d) (hm : m ≤ 4611686018427387904) (hd : d ≤ 4611686018427387904) :
    Calls Tryd.prog 18 #[v] w fun e w' => e = .returned (.tuple #[.agg #[.int .i64 m, .int .i64 d], .bool true]) ∧ Below w.heap.size w w' := by
  obtain ⟨u, q, rfl, hu, hq⟩ := h
  rw [Int.natAbs_natCast] at hu
  rw [decide_eq_false (show ¬ (m : Int) < 0 by omega)]
  obtain ⟨ad1, l1, cap1, rfl, _⟩ := hu.len
  obtain ⟨ad2, l2, cap2, rfl, _⟩ := hq.len
  obtain ⟨W0, hW0⟩ : ∃ W0, W0 = (w.alloc (.cells #[.bool false, .slice ad1 l1 cap1, .slice ad2 l2 cap2] 47)).alloc (.cells #[.int .i64 0, .int .i64 0] 40) := ⟨_, rfl⟩
  have hb0 : Below w.heap.size w W0 := by rw [hW0]; exact below_chain (new_below _ _) (new_below _ _)
  have HKS : Hid (∀ W, Below W0.heap.size W0 W → (W.cell? ⟨w.heap.size, 0, none⟩ = some (.bool false) ∧ W.cell? ⟨w.heap.size, 1, none⟩ = some (.slice ad1 l1 cap1) ∧ W.cell? ⟨w.heap.size, 2, none⟩ = some (.slice ad2 l2 cap2)) ∧ (W.cell? ⟨w.heap.size + 1, 0, none⟩ = some (.int .i64 0) ∧ W.cell? ⟨w.heap.size + 1, 1, none⟩ = some (.int .i64 0)) ∧ W.frozen? ⟨w.heap.size + 1, 0, none⟩ = false ∧ W.frozen? ⟨w.heap.size + 1, 1, none⟩ = false) := fun W hb => by
    have hr := hb
    rw [hW0] at hr
    have hr2 := res_past hr
    rw [World.size_alloc] at hr2
    have a : ∀ j v, #[Value.bool false, .slice ad1 l1 cap1, .slice ad2 l2 cap2][j]? = some v → W0.cell? ⟨w.heap.size, j, none⟩ = some v := fun j v h => by rw [hW0, World.cell?_alloc_lt _ _ ⟨w.heap.size, j, none⟩ (by simp), World.cell?_alloc_at _ _ _ _ rfl]; exact h
    exact ⟨⟨(cell_past (a 0 _ rfl) hb).2, (cell_past (a 1 _ rfl) hb).2, (cell_past (a 2 _ rfl) hb).2⟩, ⟨hr2.1, hr2.2.1⟩, hr2.2.2⟩
  have HU : Hid (∀ W, Below W0.heap.size W0 W → BigAt W (.slice ad1 l1 cap1) m ∧ BigAt W (.slice ad2 l2 cap2) d) := fun W hb => ⟨(hu.later hb0).later hb, (hq.later hb0).later hb⟩
  have hof : Calls Tryd.prog 39 #[.int .i64 4611686018427387904] W0 fun e w' => ∃ v, e = .returned v ∧ BigAt w' v 4611686018427387904 ∧ Below W0.heap.size W0 w' := BigOf_any 4611686018427387904 W0 (Nat.le_refl _)
  have k4 : (4611686018427387904 : Nat) < 1000000 ^ 4 := by decide
  obtain ⟨z1, hz1⟩ : ∃ z, z = cmpOf m 4611686018427387904 := ⟨_, rfl⟩
  obtain ⟨z2, hz2⟩ : ∃ z, z = cmpOf d 4611686018427387904 := ⟨_, rfl⟩
  have hle1 : ¬ 0 < z1 := by rw [hz1]; have := cmpOf_le hm; omega
  have hle2 : ¬ 0 < z2 := by rw [hz2]; have := cmpOf_le hd; omega
  have HC1 : Hid (∀ (W : World) (v : Value), Below W0.heap.size W0 W → BigAt W v 4611686018427387904 → Calls Tryd.prog 40 #[.slice ad1 l1 cap1, v] W fun e w' => e = .returned (.int .i64 z1) ∧ ∃ m, w' = W.drewN m) := fun W v hb hv => by
    rw [hz1]; exact BigCmp_any _ _ m _ 4 W (HU.out W hb).1 hv (Nat.lt_of_le_of_lt hm k4) k4 (by decide)
  have HC2 : Hid (∀ (W : World) (v : Value), Below W0.heap.size W0 W → BigAt W v 4611686018427387904 → Calls Tryd.prog 40 #[.slice ad2 l2 cap2, v] W fun e w' => e = .returned (.int .i64 z2) ∧ ∃ m, w' = W.drewN m) := fun W v hb hv => by
    rw [hz2]; exact BigCmp_any _ _ d _ 4 W (HU.out W hb).2 hv (Nat.lt_of_le_of_lt hd k4) k4 (by decide)
  have HI1 : Hid (∀ W, Below W0.heap.size W0 W → Calls Tryd.prog 41 #[.slice ad1 l1 cap1] W fun e w' => e = .returned (.tuple #[.int .i64 m, .bool true]) ∧ w' = W) := fun W hb => BigInt_any _ m W (HU.out W hb).1 hm
  have HI2 : Hid (∀ W, Below W0.heap.size W0 W → Calls Tryd.prog 41 #[.slice ad2 l2 cap2] W fun e w' => e = .returned (.tuple #[.int .i64 d, .bool true]) ∧ w' = W) := fun W hb => BigInt_any _ d W (HU.out W hb).2 hd
  have HB0 := Hid.mk' hb0
  have HW0 := Hid.mk' hW0
  clear hu hq hb0 hW0 hz1 hz2 k4 hm hd
  go_enter Tryd.func18, Tryd.ntmps18
  go_upto_region 1 with fail
  rw [← HW0.out]
  go_wp2_with fail
  refine hof.mono ?_
  clear hof
  rintro e w1 ⟨v1, rfl, hv1, hb1⟩
  obtain ⟨⟨x0, x1, x2⟩, _, _, _⟩ := HKS.out w1 hb1
  have hc1 := HC1.out w1 v1 hb1 hv1
  go_wp2_with fail
  refine hc1.mono ?_
  rintro e w2 ⟨rfl, m2, hw2⟩
  have hb2 : Below w1.heap.size w1 w2 := by rw [hw2]; exact below_drewN (Below.refl _ _) _
  have hv2 := hv1.later hb2
  have hb02 := below_chain hb1 hb2
  clear hw2 hb1 hv1 hb2 hc1 x0 x1 x2
  obtain ⟨⟨x0, x1, x2⟩, _, _, _⟩ := HKS.out w2 hb02
  have hc2 := HC2.out w2 v1 hb02 hv2
  go_wp2_with fail
  refine hc2.mono ?_
  rintro e w3 ⟨rfl, m3, hw3⟩
  have hb3 : Below w2.heap.size w2 w3 := by rw [hw3]; exact below_drewN (Below.refl _ _) _
  have hb03 := below_chain hb02 hb3
  clear hw3 hb02 hv2 hb3 hc2 x0 x1 x2
  obtain ⟨⟨x0, x1, x2⟩, ⟨c0, c1⟩, f0, f1⟩ := HKS.out w3 hb03
  have hi1 := HI1.out w3 hb03
  have hi2 := HI2.out w3 hb03
  have HB3 := Hid.mk' (below_chain HB0.out hb03)
  clear hb03
  go_wp2_with (first
    | (go_at_call_of 41 cap1; refine hi1.mono ?_; rintro e w4 ⟨rfl, hw4⟩; rw [hw4]; clear hw4)
    | (go_at_call_of 41 cap2; refine hi2.mono ?_; rintro e w4 ⟨rfl, hw4⟩; rw [hw4]; clear hw4))
  refine bodyPost_ret (v := .tuple #[.agg #[.int .i64 m, .int .i64 d], .bool true]) (by simp [results, Tryd.results18, go_sem, c0, c1]) rfl ⟨rfl, ?_⟩
  exact (HB3.out.setCell (by show w.heap.size ≤ w.heap.size + 1; omega) _).setCell (by show w.heap.size ≤ w.heap.size + 1; omega) _
end Go.Proofs.YtnihclkaaglnjaaDoor

/- The law ChannelGuess. -/
namespace Go.Proofs.YtnihclkaaglnjaaDoor
open Go.RowKit

theorem rowG_le {R : Nat} {ns : Nat → Nat} (h : sumT ns R ≤ 400) (i : Nat) (hi : i < R) : ns i ≤ 400 := by
  have h2 : sumT ns i + ns i ≤ sumT ns R := sumT_mono ns hi
  omega
theorem taErr_ok2 {n : Nat} {z : Nat → Int} {R : Nat} {ns : Nat → Nat} {zs : Nat → Nat → Int} (h : taErr n z R ns zs = 0) : inErr n z R ns zs = 0 ∧ inL n z R (ns 0) zs ≤ 4096 := by
  unfold taErr at h
  by_cases h1 : inErr n z R ns zs ≠ 0
  · rw [if_pos h1] at h; exact absurd h h1
  · rw [if_neg h1] at h
    by_cases h2 : 4096 < inL n z R (ns 0) zs
    · rw [if_pos h2] at h; cases h
    · exact ⟨by omega, by omega⟩
set_option maxRecDepth 100000 in
set_option maxHeartbeats 4000000 in
theorem ChannelGuess_all (a : Nat → Addr) (ad : Option Addr) (n cap : Nat) (z : Nat → Int) (ad' : Option Addr) (R cap' : Nat) (vs : Nat → Value) (ns : Nat → Nat) (zs : Nat → Nat → Int) (w : World) (hE : Errs w a) (h : NumsAt w (.slice ad n cap) n z) (hm : n ≤ maxLen) (k : TabAt w (.slice ad' R cap') R vs ns zs) (hm' : R ≤ maxLen) (hs : sumT ns R ≤ 2000000) :
    Calls Tryd.prog 5 #[.slice ad n cap, .slice ad' R cap'] w fun e w' => e = .returned (.bool true) ∧ Below w.heap.size w w' := by
  have hC := noisy_any a w hE
  unfold maxLen at hm
  by_cases hf : R ≤ 40 ∧ sumT ns R ≤ 400
  · have HFW : Hid (∀ W, Below w.heap.size w W → Calls Tryd.prog 7 #[.slice ad' R cap'] W fun e w' => e = .returned (.bool true) ∧ Below W.heap.size W w') := fun W hb => few_any _ R vs ns zs W (k.later hb) hm' hs true ⟨fun _ => hf, fun _ => rfl⟩
    obtain ⟨hf1, hf2⟩ := hf
    by_cases hn : n ≤ 100
    · have hd : decide (100 < (n : Int)) = false := decide_eq_false (by omega)
      have HN : Hid (∀ W, Below w.heap.size w W → NumsAt W (.slice ad n cap) n z) := fun W hb => h.later hb
      have HK : Hid (∀ W, Below w.heap.size w W → TabAt W (.slice ad' R cap') R vs ns zs) := fun W hb => k.later hb
      have HTD : Hid (∀ W, Below w.heap.size w W → Calls Tryd.prog 14 #[.slice ad n cap, .slice ad' R cap'] W fun e w' => ∃ ta tl tc, e = .returned (.tuple #[.slice ta tl tc, .int .i64 (taErr n z R ns zs : Nat)]) ∧ Below W.heap.size W w') := fun W hb => by
        refine (TableOf_any _ n z _ R vs ns zs W (h.later hb) (k.later hb) (by omega) hf1 (rowG_le hf2)).mono ?_
        rintro e w' ⟨t', rfl, t0, t1, hbw⟩
        by_cases h0 : taErr n z R ns zs = 0
        · obtain ⟨q, hq⟩ := t1 h0
          obtain ⟨qa, qc, rfl⟩ := hq.form
          exact ⟨_, _, _, rfl, hbw⟩
        · obtain rfl := t0 h0
          exact ⟨_, _, _, rfl, hbw⟩
      by_cases h0 : taErr n z R ns zs = 0
      · obtain ⟨he, hL4⟩ := taErr_ok2 h0
        obtain ⟨S, hS⟩ : ∃ S, S = rightN (outN n z R (ns 0) zs) R (ns 0) := ⟨_, rfl⟩
        have hC16 := (inOk_of he).1.c16
        have hC0 := (inOk_of he).1.c0
        have HGP : Hid (∀ (W : World) (x y : Value) (us : Nat → Value), Below w.heap.size w W → NumsAt W x n z → TabAt W y R us ns zs → Calls Tryd.prog 16 #[x, y] W fun e w' => ∃ g, e = .returned (.tuple #[.slice (some ⟨g, 0, none⟩) (ns 0) (ns 0), .agg #[.int .i64 ((lowP (inL n z R (ns 0) zs - S) (inL n z R (ns 0) zs)).1 : Int), .int .i64 ((lowP (inL n z R (ns 0) zs - S) (inL n z R (ns 0) zs)).2 : Int)], .nilIface]) ∧ NumsAt w' (.slice (some ⟨g, 0, none⟩) (ns 0) (ns 0)) (ns 0) (fun k => lkN (outN n z R (ns 0) zs) k R) ∧ Below W.heap.size W w') := fun W x y us hb hx hy => by
          refine (Guess_ok a x n z y R us ns zs W (hE.below hb) hx hy (by omega) hf1 (rowG_le hf2) h0 S hS).mono ?_
          rintro e w' ⟨g, rfl, hr, hbw⟩
          exact ⟨g, rfl, Or.inr ⟨g, 0, _, rfl, hC0, fun j hj => by rw [Nat.zero_add]; exact hr.row j hj⟩, hbw⟩
        have HGD : Hid (∀ W, Below w.heap.size w W → Calls Tryd.prog 17 #[.slice ad n cap, .slice ad' R cap'] W fun e w' => ∃ o' a1 l1 c1 a2 l2 c2, e = .returned (.tuple #[o', .agg #[.bool false, .slice a1 l1 c1, .slice a2 l2 c2]]) ∧ NumsAt w' o' (ns 0) (fun k => lkN (outN n z R (ns 0) zs) k R) ∧ BigAt w' (.slice a1 l1 c1) (lowP (inL n z R (ns 0) zs - S) (inL n z R (ns 0) zs)).1 ∧ BigAt w' (.slice a2 l2 c2) (lowP (inL n z R (ns 0) zs - S) (inL n z R (ns 0) zs)).2 ∧ Below W.heap.size W w') := fun W hb => GuessOf_any _ n z _ R vs ns zs W (h.later hb) (k.later hb) he hL4 S hS
        have hlo := lowP_le (inL n z R (ns 0) zs - S) (inL n z R (ns 0) zs)
        rw [h0] at HTD
        generalize (lowP (inL n z R (ns 0) zs - S) (inL n z R (ns 0) zs)).1 = P at *
        generalize (lowP (inL n z R (ns 0) zs - S) (inL n z R (ns 0) zs)).2 = Q at *
        generalize inL n z R (ns 0) zs = L at *
        generalize (fun k => lkN (outN n z R (ns 0) zs) k R) = lk at *
        generalize ns 0 = C at *
        have hP : P ≤ 4096 := by omega
        have hQ : Q ≤ 4096 := by omega
        clear hE h k h0 he hS hlo hL4
        go_enter Tryd.func5, Tryd.ntmps5
        go_wp2_with (first
          | (go_at_call 6; refine hC.mono ?_; rintro e w1 ⟨rfl, hb1⟩; have HB1 := Hid.mk' hb1; clear hb1)
          | (go_at_call 7; refine (HFW.out w1 HB1.out).mono ?_; rintro e w2 ⟨rfl, hb2⟩; have HB2 := Hid.mk' (below_chain HB1.out hb2); clear hb2)
          | (go_at_call 14; refine (HTD.out w2 HB2.out).mono ?_; rintro e w3 ⟨ta, tl, tc, rfl, hb3⟩; have HB3 := Hid.mk' (below_chain HB2.out hb3); clear hb3)
          | (go_at_call 13; refine (ints_any _ n z w3 (HN.out _ HB3.out) (by omega)).mono ?_; rintro e w4 ⟨v4, rfl, hv4, hb4⟩; obtain ⟨ad4, cap4, rfl⟩ := hv4.form; have HV4 := Hid.mk' hv4; have HB4 := Hid.mk' (below_chain HB3.out hb4); clear hv4 hb4)
          | (go_at_call 10; refine (lists_any _ R vs ns zs w4 (HK.out _ HB4.out) hf1 hf2).mono ?_; rintro e w5 ⟨v5, vs5, rfl, hv5, hb5⟩; obtain ⟨ad5, cap5, rfl⟩ := hv5.form; have HV5 := Hid.mk' hv5; have HV45 := Hid.mk' (HV4.out.later hb5); have HB5 := Hid.mk' (below_chain HB4.out hb5); clear hv5 hb5)
          | (go_at_call 16; refine (HGP.out w5 _ _ vs5 HB5.out HV45.out HV5.out).mono ?_; rintro e w6 ⟨g6, rfl, hn6, hb6⟩; have HN6 := Hid.mk' hn6; have HB6 := Hid.mk' (below_chain HB5.out hb6); clear hn6 hb6))
        have hbA : Below w6.heap.size w6 (w6.alloc (.cells #[.int .i64 (P : Int), .int .i64 (Q : Int)] 40)) := (Below.refl _ _).alloc (Nat.le_refl _) _
        have HBA := Hid.mk' (below_chain HB6.out hbA)
        have HNA := Hid.mk' (HN6.out.later hbA)
        have HCA : Hid (∀ W, Below (w6.alloc (.cells #[.int .i64 (P : Int), .int .i64 (Q : Int)] 40)).heap.size (w6.alloc (.cells #[.int .i64 (P : Int), .int .i64 (Q : Int)] 40)) W → W.cell? ⟨w6.heap.size, 0, none⟩ = some (.int .i64 (P : Int)) ∧ W.cell? ⟨w6.heap.size, 1, none⟩ = some (.int .i64 (Q : Int))) := fun W hb => ⟨(res_past hb).1, (res_past hb).2.1⟩
        clear hbA
        refine (HGD.out _ HBA.out).mono ?_
        clear HGD HGP HTD HFW
        rintro e w7 ⟨o7, a1, l1, c1, a2, l2, c2, rfl, hn7, hp7, hq7, hb7⟩
        obtain ⟨ad7, cap7, rfl⟩ := hn7.form
        have hbB : Below w7.heap.size w7 (w7.alloc (.cells #[.bool false, .slice a1 l1 c1, .slice a2 l2 c2] 47)) := (Below.refl _ _).alloc (Nat.le_refl _) _
        have HTO := Hid.mk' (RTold_ok (.agg #[.bool false, .slice a1 l1 c1, .slice a2 l2 c2]) P Q (w7.alloc (.cells #[.bool false, .slice a1 l1 c1, .slice a2 l2 c2] 47)) (ratio_parts (hp7.later hbB) (hq7.later hbB)) (by omega) (by omega))
        have HNB := Hid.mk' (hn7.later hbB)
        have HNA7 := Hid.mk' ((HNA.out.later hb7).later hbB)
        have HBB := Hid.mk' (below_chain hb7 hbB)
        clear hn7 hp7 hq7 hb7 hbB
        go_wp2_with fail
        refine HTO.out.mono ?_
        rintro e w8 ⟨rfl, hb8⟩
        have hbC : Below w8.heap.size w8 (w8.alloc (.cells #[.int .i64 (P : Int), .int .i64 (Q : Int)] 40)) := (Below.refl _ _).alloc (Nat.le_refl _) _
        have HBC := Hid.mk' (below_chain HBB.out (below_chain hb8 hbC))
        have HSI := Hid.mk' (SameInts_any _ _ C lk (w8.alloc (.cells #[.int .i64 (P : Int), .int .i64 (Q : Int)] 40)) (HNA7.out.later (below_chain hb8 hbC)) (HNB.out.later (below_chain hb8 hbC)) (by omega))
        clear hb8 hbC
        go_wp2_with fail
        refine HSI.out.mono ?_
        rintro e w9 ⟨rfl, hb9⟩
        obtain ⟨y0, y1⟩ := HCA.out w9 (below_chain HBC.out hb9)
        have t0 := (res_past hb9).1
        have t1 := (res_past hb9).2.1
        have HB9 := Hid.mk' (below_chain HBA.out (below_chain HBC.out hb9))
        clear hb9
        go_wp2_with fail
        go_ret
        exact ⟨rfl, HB9.out⟩
      · have HGB : Hid (∀ (W : World) (x y : Value) (us : Nat → Value), Below w.heap.size w W → NumsAt W x n z → TabAt W y R us ns zs → Calls Tryd.prog 16 #[x, y] W fun e w' => e = .returned (.tuple #[.slice none 0 0, .agg #[.int .i64 0, .int .i64 0], errV a (taErr n z R ns zs)]) ∧ Below W.heap.size W w') := fun W x y us hb hx hy => Guess_bad a x n z y R us ns zs W (hE.below hb) hx hy (by omega) hf1 (rowG_le hf2) h0
        have HC1 := Hid.mk' (taErr_le n z R ns zs)
        have HE : Hid (∀ W, Below w.heap.size w W → Errs W a) := fun W hb => hE.below hb
        generalize taErr n z R ns zs = c at *
        obtain ⟨ec, hec⟩ : ∃ ec, ec = errV a c := ⟨_, rfl⟩
        have HK1 : Hid (∀ W, Below w.heap.size w W → Calls Tryd.prog 8 #[ec, .int .i64 (c : Int)] W fun e w' => e = .returned (.bool true) ∧ Below W.heap.size W w') := fun W hb => by rw [hec]; exact coded_errV a c (by have := HC1.out; omega) W (HE.out W hb)
        rw [← hec] at HGB
        have hcI : (0 : Int) < (c : Int) := by omega
        clear hE h k hec
        go_enter Tryd.func5, Tryd.ntmps5
        go_wp2_with (first
          | (go_at_call 6; refine hC.mono ?_; rintro e w1 ⟨rfl, hb1⟩; have HB1 := Hid.mk' hb1; clear hb1)
          | (go_at_call 7; refine (HFW.out w1 HB1.out).mono ?_; rintro e w2 ⟨rfl, hb2⟩; have HB2 := Hid.mk' (below_chain HB1.out hb2); clear hb2)
          | (go_at_call 14; refine (HTD.out w2 HB2.out).mono ?_; rintro e w3 ⟨ta, tl, tc, rfl, hb3⟩; have HB3 := Hid.mk' (below_chain HB2.out hb3); clear hb3)
          | (go_at_call 13; refine (ints_any _ n z w3 (HN.out _ HB3.out) (by omega)).mono ?_; rintro e w4 ⟨v4, rfl, hv4, hb4⟩; obtain ⟨ad4, cap4, rfl⟩ := hv4.form; have HV4 := Hid.mk' hv4; have HB4 := Hid.mk' (below_chain HB3.out hb4); clear hv4 hb4)
          | (go_at_call 10; refine (lists_any _ R vs ns zs w4 (HK.out _ HB4.out) hf1 hf2).mono ?_; rintro e w5 ⟨v5, vs5, rfl, hv5, hb5⟩; obtain ⟨ad5, cap5, rfl⟩ := hv5.form; have HV5 := Hid.mk' hv5; have HV45 := Hid.mk' (HV4.out.later hb5); have HB5 := Hid.mk' (below_chain HB4.out hb5); clear hv5 hb5)
          | (go_at_call 16; refine (HGB.out w5 _ _ vs5 HB5.out HV45.out HV5.out).mono ?_; rintro e w6 ⟨rfl, hb6⟩; have HB6 := Hid.mk' (below_chain HB5.out hb6); have HBA := Hid.mk' (below_chain HB6.out ((Below.refl w6.heap.size w6).alloc (Nat.le_refl _) (.cells #[.int .i64 0, .int .i64 0] 40))); clear hb6)
          | (go_at_call_of 8 ec; refine (HK1.out _ HBA.out).mono ?_; rintro e w7 ⟨rfl, hb7⟩; have y0 := (res_past hb7).1; have y1 := (res_past hb7).2.1; have HB7 := Hid.mk' (below_chain HBA.out hb7); clear hb7))
        go_ret
        exact ⟨rfl, HB7.out⟩
    · have hd : decide (100 < (n : Int)) = true := decide_eq_true (by omega)
      clear hE h k
      go_enter Tryd.func5, Tryd.ntmps5
      go_wp2_with (first
        | (go_at_call 6; refine hC.mono ?_; rintro e w1 ⟨rfl, hb1⟩; have HB1 := Hid.mk' hb1; clear hb1)
        | (go_at_call 7; refine (HFW.out w1 HB1.out).mono ?_; rintro e w2 ⟨rfl, hb2⟩; have HB2 := Hid.mk' (below_chain HB1.out hb2); clear hb2))
      go_ret
      exact ⟨rfl, HB2.out⟩
  · have HFW : Hid (∀ W, Below w.heap.size w W → Calls Tryd.prog 7 #[.slice ad' R cap'] W fun e w' => e = .returned (.bool false) ∧ Below W.heap.size W w') := fun W hb => few_any _ R vs ns zs W (k.later hb) hm' hs false ⟨(fun e => by cases e), (fun e => absurd e hf)⟩
    clear hE h k hf
    go_enter Tryd.func5, Tryd.ntmps5
    go_wp2_with (first
      | (go_at_call 6; refine hC.mono ?_; rintro e w1 ⟨rfl, hb1⟩; have HB1 := Hid.mk' hb1; clear hb1)
      | (go_at_call 7; refine (HFW.out w1 HB1.out).mono ?_; rintro e w2 ⟨rfl, hb2⟩; have HB2 := Hid.mk' (below_chain HB1.out hb2); clear hb2))
    go_ret
    exact ⟨rfl, HB2.out⟩
end Go.Proofs.YtnihclkaaglnjaaDoor

/- What the rows' condition on package variables gives a walk: eight different sentinels with their texts, and the handle of the type error. -/
namespace Go.Proofs.YtnihclkaaglnjaaDoor
open Go.ChangeShapes Go.WideShapes Go.RowKit

theorem Tryd.own : ownKnob Tryd.prog.godebug = none := by kernel_rfl
theorem Tryd.et : Tryd.prog.globalNamed "errors.errorType" = some 8 := by kernel_rfl
theorem Tryd.rt : (Tryd.prog.cutTypes.find? (·.1 == "internal/reflectlite.rtype")).map (·.2) = some 118 := by kernel_rfl
theorem Tryd.oneRow : ((List.range 167).filter fun t => Tryd.prog.rowNamed t [101, 114, 114, 111, 114]) = [27] := by kernel_rfl
theorem Tryd.size : Tryd.prog.types.size = 167 := by kernel_rfl
theorem Tryd.star : ("*" ++ "errors.errorString" : String) = "*errors.errorString" := by decide
theorem Tryd.rowE (u : TypeId) (h : Tryd.prog.typeName? 3 u = some "*errors.errorString") : u = 132 :=
  typeName_ptr_named (nm := "errors.errorString") (by rw [Tryd.star]; kernel_rfl) (by kernel_rfl) (by decide) u (by rw [Tryd.star]; exact h)
theorem Tryd.cellsE : Tryd.prog.cellsOf 155 = 1 := by kernel_rfl
theorem Tryd.cellsS : Tryd.prog.cellsOf 9 = 1 := by kernel_rfl
theorem Tryd.g0 : Tryd.prog.globalNamed "demon/api.ErrText" = some 2 := by kernel_rfl
theorem Tryd.g1 : Tryd.prog.globalNamed "demon/api.ErrBound" = some 0 := by kernel_rfl
theorem Tryd.g2 : Tryd.prog.globalNamed "demon/api.ErrShape" = some 1 := by kernel_rfl
theorem Tryd.g3 : Tryd.prog.globalNamed "demon/api.ErrZero" = some 3 := by kernel_rfl
theorem Tryd.g4 : Tryd.prog.globalNamed "demon/api.ErrName" = some 4 := by kernel_rfl
theorem Tryd.g5 : Tryd.prog.globalNamed "demon/api.ErrNone" = some 5 := by kernel_rfl
theorem Tryd.g6 : Tryd.prog.globalNamed "demon/api.ErrOrder" = some 6 := by kernel_rfl
theorem Tryd.g7 : Tryd.prog.globalNamed "demon/api.ErrKind" = some 7 := by kernel_rfl

/-- Any number of listed sentinels of one type: each one's pointer, text and row; no two are one. -/
theorem laid_list {P : Program} {W : World} {nm : String} {ti tp te ts : TypeId} {ms : Array (String × TypeId)} {f : Field}
    (hi : P.underlying ti = some (.interface ms)) (hrow : ∀ u, P.typeName? 3 u = some nm → u = tp)
    (hp : P.underlying tp = some (.pointer te)) (he : P.underlying te = some (.struct #[f])) (hft : f.type = ts) (hfo : f.offset = 0) (hs : P.underlying ts = some .string) (hc : P.cellsOf te = 1) (hcs : P.cellsOf ts = 1) :
    ∀ (L : List (String × List UInt8)) (ps : List MemPlace), (∀ x, x ∈ L → ∃ g, P.globalNamed x.1 = some g ∧ (P.globals[g]?).map (·.type) = some ti) →
      DataW.LaidVars P W (L.map fun x => (x.1, .iface nm (.ptr (.agg [.lit (.string x.2)])))) ps → ps.Nodup →
      (∀ b off, MemPlace.cell b off ∈ ps → (∃ c t, W.heap[b]? = some (.cells c t (0, 0))) ∧ ∀ u v, W.cell? ⟨b, off, none⟩ = some (.iface u v) → Value.okWide P W .any 0 u v) →
      ∃ a : Nat → Addr, (∀ i x, L[i]? = some x → W.var? P x.1 = some #[.iface tp (.pointer (some (a i)))] ∧ (∃ s, W.cell? (a i) = some (.string s) ∧ s.data.toList = x.2) ∧
          (∃ c t, W.heap[(a i).block]? = some (.cells c t (0, 0))) ∧ MemPlace.cell (a i).block (a i).off ∈ ps) ∧
        ∀ i j, i < L.length → j < L.length → i ≠ j → a i ≠ a j := by
  intro L
  induction L with
  | nil => intro ps _ _ _ _; exact ⟨fun _ => default, fun i x h => by simp at h, fun i j h => by simp at h⟩
  | cons x r ih =>
    intro ps hgs hv hnd hrows
    obtain ⟨n, text⟩ := x
    obtain ⟨g0, t0, cs0, f0, p0, q0, hg0, ht0, hv0, hd0, hvr, e0⟩ := hv
    obtain ⟨g, hg, ht⟩ := hgs (n, text) (List.mem_cons_self ..)
    obtain rfl := Option.some.inj (hg.symm.trans hg0)
    obtain rfl := Option.some.inj (ht.symm.trans ht0)
    subst e0
    obtain ⟨l0⟩ := cs0
    have ok0 : ∀ u v, l0 = [.iface u v] → Value.okWide P W .any 0 u v := fun u v e => by
      subst e
      exact (hrows g 0 (by simp [MemPlace.row])).2 u v (by simpa using World.var?_cell hg0 hv0 0)
    obtain ⟨a0, s0, rfl, hc0, hs0, hz0, rfl⟩ := errorString_of_trod hi hrow hp he hft hfo hs hc hcs hd0 ok0
    obtain ⟨c0, tt0, hb0⟩ := (hrows a0.block a0.off (by simp [MemPlace.row])).1
    have hnq : q0.Nodup := List.Nodup.sublist (List.sublist_append_right _ _) hnd
    obtain ⟨a', ha', hne'⟩ := ih q0 (fun x hx => hgs x (List.mem_cons_of_mem _ hx)) hvr hnq (fun b off hm => hrows b off (List.mem_append_right _ hm))
    have hnot : MemPlace.cell a0.block a0.off ∉ q0 := by
      intro hm
      have := (List.nodup_append.1 hnd).2.2
      exact this (.cell a0.block a0.off) (by simp [MemPlace.row]) (.cell a0.block a0.off) hm rfl
    refine ⟨fun i => match i with | 0 => a0 | k + 1 => a' k, ?_, ?_⟩
    · intro i x hx
      cases i with
      | zero =>
        simp only [List.getElem?_cons_zero, Option.some.injEq] at hx
        subst hx
        exact ⟨hv0, ⟨s0, hc0, hs0⟩, ⟨c0, tt0, hb0⟩, by simp [MemPlace.row]⟩
      | succ k =>
        simp only [List.getElem?_cons_succ] at hx
        obtain ⟨h1, h2, h3, h4⟩ := ha' k x hx
        exact ⟨h1, h2, h3, List.mem_append_right _ h4⟩
    · have far : ∀ k, k < r.length → a0 ≠ a' k := fun k hk e => by
        obtain ⟨_, _, _, h4⟩ := ha' k r[k] (by simp [hk])
        rw [← e] at h4
        exact hnot h4
      intro i j hi' hj' hij
      cases i with
      | zero =>
        cases j with
        | zero => exact absurd rfl hij
        | succ k => exact far k (by simpa using hj')
      | succ m =>
        cases j with
        | zero => exact (far m (by simpa using hi')).symm
        | succ k => exact hne' m k (by simpa using hi') (by simpa using hj') (by omega)

/-- The names and texts, in the rows' order. -/
def eightNames : List (String × List UInt8) := [("demon/api.ErrText", [100, 101, 109, 111, 110, 58, 32, 116, 101, 120, 116]), ("demon/api.ErrBound", [100, 101, 109, 111, 110, 58, 32, 98, 111, 117, 110, 100]), ("demon/api.ErrShape", [100, 101, 109, 111, 110, 58, 32, 115, 104, 97, 112, 101]), ("demon/api.ErrZero", [100, 101, 109, 111, 110, 58, 32, 122, 101, 114, 111]), ("demon/api.ErrName", [100, 101, 109, 111, 110, 58, 32, 110, 97, 109, 101]), ("demon/api.ErrNone", [100, 101, 109, 111, 110, 58, 32, 110, 111, 110, 101]), ("demon/api.ErrOrder", [100, 101, 109, 111, 110, 58, 32, 111, 114, 100, 101, 114]), ("demon/api.ErrKind", [100, 101, 109, 111, 110, 58, 32, 107, 105, 110, 100])]
def laidAll : List (String × DataW Unit) := [("errors.errorType", Rows.laid_errors_errorType), ("demon/api.ErrText", Rows.laid_demon_api_ErrText), ("demon/api.ErrBound", Rows.laid_demon_api_ErrBound), ("demon/api.ErrShape", Rows.laid_demon_api_ErrShape), ("demon/api.ErrZero", Rows.laid_demon_api_ErrZero), ("demon/api.ErrName", Rows.laid_demon_api_ErrName), ("demon/api.ErrNone", Rows.laid_demon_api_ErrNone), ("demon/api.ErrOrder", Rows.laid_demon_api_ErrOrder), ("demon/api.ErrKind", Rows.laid_demon_api_ErrKind)]
theorem laidAll_parts (W : World) : laidMetH Tryd.prog laidAll W = (laidMet Tryd.prog (eightNames.map fun x => (x.1, .iface "*errors.errorString" (.ptr (.agg [.lit (.string x.2)])))) W ∧ handlesMet Tryd.prog [("errors.errorType", Rows.laid_errors_errorType)] W) := by kernel_rfl

theorem var_at {W : World} {n : String} {g : Nat} {v : Value} (hg : Tryd.prog.globalNamed n = some g) (h : W.var? Tryd.prog n = some #[v]) : W.cell? ⟨g, 0, none⟩ = some v := by
  simpa using World.var?_cell hg h 0

theorem errs_of_laid {W : World} (h : laidMetH Tryd.prog laidAll W) : ∃ a : Nat → Addr, Errs W a ∧ ∀ i x, eightNames[i]? = some x → ∃ s, W.cell? (a i) = some (.string s) ∧ s.data.toList = x.2 := by
  rw [laidAll_parts] at h
  obtain ⟨⟨ps, hv, hnd, hrows⟩, hh⟩ := h
  obtain ⟨name, u, ty, e1, e2, e3, e4, e5⟩ := hh _ (List.mem_singleton.2 rfl)
  have en : name = [101, 114, 114, 111, 114] := (Option.some.inj e1).symm
  subst en
  obtain rfl := Option.some.inj (Tryd.rt.symm.trans e2)
  have hm : ty ∈ (List.range 167).filter fun t => Tryd.prog.rowNamed t [101, 114, 114, 111, 114] := List.mem_filter.2 ⟨List.mem_range.2 (by rw [← Tryd.size]; exact e3), e4⟩
  rw [Tryd.oneRow] at hm
  obtain rfl := List.mem_singleton.1 hm
  have hth : typeHandle Tryd.prog 27 = .pointer (some ⟨9, 27, none⟩) := by kernel_rfl
  rw [hth] at e5
  obtain ⟨a, ha, hne⟩ := laid_list Tryd.underlying27 Tryd.rowE Tryd.underlying132 Tryd.underlying155 rfl rfl Tryd.underlying9 Tryd.cellsE Tryd.cellsS eightNames ps
    (fun x hx => by
      simp only [eightNames, List.mem_cons, List.not_mem_nil, or_false] at hx
      rcases hx with rfl | rfl | rfl | rfl | rfl | rfl | rfl | rfl
      · exact ⟨_, Tryd.g0, by kernel_rfl⟩
      · exact ⟨_, Tryd.g1, by kernel_rfl⟩
      · exact ⟨_, Tryd.g2, by kernel_rfl⟩
      · exact ⟨_, Tryd.g3, by kernel_rfl⟩
      · exact ⟨_, Tryd.g4, by kernel_rfl⟩
      · exact ⟨_, Tryd.g5, by kernel_rfl⟩
      · exact ⟨_, Tryd.g6, by kernel_rfl⟩
      · exact ⟨_, Tryd.g7, by kernel_rfl⟩) hv hnd hrows
  refine ⟨a, ⟨var_at Tryd.g0 (ha 0 _ rfl).1, var_at Tryd.g1 (ha 1 _ rfl).1, var_at Tryd.g2 (ha 2 _ rfl).1, var_at Tryd.g3 (ha 3 _ rfl).1, var_at Tryd.g4 (ha 4 _ rfl).1, var_at Tryd.g5 (ha 5 _ rfl).1, var_at Tryd.g6 (ha 6 _ rfl).1, var_at Tryd.g7 (ha 7 _ rfl).1, var_at Tryd.et e5, ?_, ?_⟩, fun i x hx => (ha i x hx).2.1⟩
  · intro i hi
    have hl : eightNames.length = 8 := rfl
    exact (ha i eightNames[i] (List.getElem?_eq_getElem (by omega))).2.2.1
  · intro i j hi hj hij
    exact hne i j hi hj hij

/-- The door's own heap meets the condition. -/
theorem door_met (os : Os) (args : Array Value) : laidMetH Tryd.prog laidAll ((World.doorLaid Tryd.prog 168 os).forCall (fun _ _ => 0) ⟨#[], args, []⟩).memory :=
  laidMetH_of_parts3 (fuel := 8) (laidMet_of_run' 8 (by kernel_rfl) (by kernel_rfl)) (by kernel_rfl) (by kernel_rfl)
end Go.Proofs.YtnihclkaaglnjaaDoor

/- A parameter of type []int opened. -/
namespace Go.Proofs.YtnihclkaaglnjaaDoor
open Go.ChangeShapes Go.WideShapes Go.ChangeAt Go.RowKit Go.Joins Go.Deep

theorem Tryd.laidOut : laidOutB Tryd.prog = true := by kernel_rfl
theorem Tryd.cellsInt : Tryd.prog.cellsOf 3 = 1 := by kernel_rfl
theorem Tryd.cellsInts : Tryd.prog.cellsOf 31 = 1 := by kernel_rfl

set_option maxRecDepth 100000 in
/-- What a parameter of type []int gives: its slice, its numbers. -/
theorem open_nums {H : Type} {enc : TypeId × Value → H} {W : World} {base : Nat} {v : Value} {d : DataW H} {p : List MemPlace} (hv : Value.okWide Tryd.prog W .any base 31 v)
    (h : DataW.Trod enc Tryd.prog W 0 (fun _ => true) true 31 v d p) :
    ∃ (ad : Option Addr) (n cap : Nat) (z : Nat → Int), v = .slice ad n cap ∧ n ≤ maxLen ∧ NumsAt W (.slice ad n cap) n z := by
  obtain ⟨ad, n, cap, rfl⟩ := okWide_slice Tryd.underlying31 hv
  obtain ⟨fuel, hf⟩ := h
  rcases open_ints Tryd.underlying31 Tryd.underlying3 Tryd.cellsInt hf with ⟨hc, _⟩ | ⟨a, len, cap', zs, hc, _, hl, hm, hz, _, hcell, _⟩
  · simp [Value.cells] at hc
    obtain ⟨rfl, rfl, rfl⟩ := hc
    exact ⟨none, 0, 0, fun _ => 0, rfl, Nat.zero_le _, Or.inl ⟨none, 0, rfl, rfl⟩⟩
  · simp [Value.cells] at hc
    obtain ⟨rfl, rfl, rfl⟩ := hc
    simp only [if_true] at hz
    rcases Nat.eq_zero_or_pos n with rfl | hpos
    · exact ⟨some a, 0, cap, fun _ => 0, rfl, Nat.zero_le _, Or.inl ⟨some a, cap, rfl, rfl⟩⟩
    · obtain ⟨b, o, spot⟩ := a
      have hspot : spot = none := by simpa [Addr.add] using World.cell?_spot (hcell 0 (by omega))
      subst hspot
      refine ⟨_, n, cap, fun i => zs.getD i 0, rfl, by omega, Or.inr ⟨b, o, cap, rfl, hpos, fun i hi => ?_⟩⟩
      have := hcell i (by omega)
      rw [Go.Proofs.YtnihclkaaglnjaaDoor.add_plain] at this
      exact this
end Go.Proofs.YtnihclkaaglnjaaDoor

/- A parameter of type [][]int opened; how many numbers it holds at the most. -/
namespace Go.Proofs.YtnihclkaaglnjaaDoor
open Go.ChangeShapes Go.WideShapes Go.ChangeAt Go.RowKit Go.Joins Go.Deep

theorem bulk_one {H : Type} (d : DataW H) : 1 ≤ Rows.uptoBulk d := by
  cases d with
  | lit l => cases l <;> simp [Rows.uptoBulk]
  | _ => simp [Rows.uptoBulk]
theorem bulk_len {H : Type} : ∀ l : List (DataW H), l.length ≤ Rows.uptoBulkAll l
  | [] => by simp [Rows.uptoBulkAll]
  | x :: r => by
    have h1 := bulk_one x
    have h2 := bulk_len r
    simp only [Rows.uptoBulkAll, List.length_cons]
    omega
theorem bulk_mem {H : Type} {d : DataW H} : ∀ {l : List (DataW H)}, d ∈ l → Rows.uptoBulk d ≤ Rows.uptoBulkAll l
  | x :: r, h => by
    simp only [Rows.uptoBulkAll]
    rcases List.mem_cons.1 h with rfl | h'
    · omega
    · have := bulk_mem h'; omega
theorem bulk_append {H : Type} : ∀ l r : List (DataW H), Rows.uptoBulkAll (l ++ r) = Rows.uptoBulkAll l + Rows.uptoBulkAll r
  | [], r => by simp [Rows.uptoBulkAll]
  | x :: l, r => by simp only [List.cons_append, Rows.uptoBulkAll, bulk_append l r]; omega
theorem bulk_sum {H : Type} (f : Nat → DataW H) (L : Nat → Nat) : ∀ n, (∀ r, r < n → L r ≤ Rows.uptoBulk (f r)) → sumT L n ≤ Rows.uptoBulkAll ((List.range n).map f)
  | 0, _ => Nat.zero_le _
  | n + 1, h => by
    have h1 := bulk_sum f L n (fun r hr => h r (by omega))
    have h2 := h n (by omega)
    show sumT L n + L n ≤ _
    rw [List.range_succ, List.map_append, bulk_append]
    simp only [List.map_cons, List.map_nil, Rows.uptoBulkAll]
    omega

set_option maxRecDepth 100000 in
theorem open_table {H : Type} {enc : TypeId × Value → H} {W : World} {base : Nat} {v : Value} {d : DataW H} {p : List MemPlace} (hv : Value.okWide Tryd.prog W .any base 22 v)
    (h : DataW.Trod enc Tryd.prog W 0 (fun _ => true) true 22 v d p) :
    ∃ (ad : Option Addr) (R cap : Nat) (vs : Nat → Value) (ns : Nat → Nat) (zs : Nat → Nat → Int), v = .slice ad R cap ∧ R ≤ maxLen ∧ TabAt W (.slice ad R cap) R vs ns zs ∧ sumT ns R ≤ Rows.uptoBulk d := by
  obtain ⟨ad, R, cap, rfl⟩ := okWide_slice Tryd.underlying22 hv
  obtain ⟨fuel, hf⟩ := h
  rcases open_int_rows Tryd.underlying22 Tryd.underlying31 Tryd.underlying3 Tryd.cellsInts Tryd.cellsInt hf with ⟨hc, _⟩ | ⟨a, len, cap', A, L, C, Z, hc, _, hl, hm, hx, hr⟩
  · simp [Value.cells] at hc
    obtain ⟨rfl, rfl, rfl⟩ := hc
    exact ⟨none, 0, 0, fun _ => .slice none 0 0, fun _ => 0, fun _ _ => 0, rfl, Nat.zero_le _, Or.inl ⟨none, 0, rfl, rfl⟩, Nat.zero_le _⟩
  · simp [Value.cells] at hc
    obtain ⟨rfl, rfl, rfl⟩ := hc
    simp only [Prod.mk.injEq] at hx
    obtain ⟨rfl, _⟩ := hx
    have hbulk : sumT L R ≤ Rows.uptoBulk (DataW.slice ((List.range R).map fun r => intRow .i64 (A r) (L r) (Z r)) ((List.range (cap - R)).map fun j => intRow .i64 (A (R + j)) (L (R + j)) (Z (R + j))) : DataW H) := by
      have h1 := bulk_sum (H := H) (fun r => intRow .i64 (A r) (L r) (Z r)) L R (fun r hr' => by
        obtain ⟨_, h2, _, h4, _, h6, _⟩ := hr r (by omega)
        cases hA : A r with
        | none => have := h6 hA; omega
        | some a' =>
          have h7 := bulk_len (H := H) (lits .i64 ((Z r).take (L r)))
          have h8 : (lits (H := H) .i64 ((Z r).take (L r))).length = L r := by simp [lits]; omega
          simp only [intRow, Rows.uptoBulk]
          omega)
      simp only [Rows.uptoBulk]
      omega
    rcases Nat.eq_zero_or_pos R with rfl | hpos
    · exact ⟨some a, 0, cap, fun _ => .slice none 0 0, L, fun _ _ => 0, rfl, Nat.zero_le _, Or.inl ⟨some a, cap, rfl, rfl⟩, hbulk⟩
    · obtain ⟨b, o, spot⟩ := a
      have hspot : spot = none := by simpa [Addr.add] using World.cell?_spot (hr 0 (by omega)).1
      subst hspot
      refine ⟨_, R, cap, fun r => .slice (A r) (L r) (C r), L, fun r i => (Z r).getD i 0, rfl, by omega, Or.inr ⟨b, o, cap, rfl, hpos, fun i hi => ?_⟩, hbulk⟩
      obtain ⟨h1, h2, _, h4, _, h6, h7⟩ := hr i (by omega)
      rw [Go.Proofs.YtnihclkaaglnjaaDoor.add_plain] at h1
      refine ⟨h1, ?_⟩
      rcases Nat.eq_zero_or_pos (L i) with h0 | h0
      · exact Or.inl ⟨A i, C i, by dsimp only; rw [h0], h0⟩
      · cases hA : A i with
        | none => have := h6 hA; omega
        | some a' =>
          obtain ⟨_, h8⟩ := h7 a' hA
          obtain ⟨b', o', spot'⟩ := a'
          have hs' : spot' = none := by simpa [Addr.add] using World.cell?_spot (h8 0 (by omega))
          subst hs'
          refine Or.inr ⟨b', o', C i, by dsimp only; rw [hA], h0, fun j hj => ?_⟩
          have := h8 j (by omega)
          rw [Go.Proofs.YtnihclkaaglnjaaDoor.add_plain] at this
          exact this
theorem bulk_bound {H : Type} {l : List (DataW H)} (hk : Rows.uptoSmall H l = true) : Rows.uptoBulkAll l ≤ 1048576 := of_decide_eq_true hk
end Go.Proofs.YtnihclkaaglnjaaDoor
