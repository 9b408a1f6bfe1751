/- channel.Table in all cases, and the laws' closed fact: two even symbols, one in four of which is changed. -/
import Derived.Test.YtnihclkaaglnjaaDoorCnTab
import Derived.Test.YtnihclkaaglnjaaDoorLol
namespace Go.Proofs.YtnihclkaaglnjaaDoor
open Go.RowKit

theorem FG.tab {w wr : World} {g n C : Nat} {rb : Nat → Nat} {Z : Nat → Nat → Int} (h : FG w wr g n C C n rb (fun i k => .int .i64 (Z i k))) (h0 : 0 < n) (hC : 0 < C) : TabAt wr (.slice (some ⟨g, 0, none⟩) n n) n (fun i => .slice (some ⟨rb i, 0, none⟩) C C) (fun _ => C) Z := by
  refine Or.inr ⟨g, 0, n, rfl, h0, fun i hi => ⟨by rw [Nat.zero_add]; exact h.made i hi, Or.inr ⟨rb i, 0, C, rfl, hC, fun k hk => ?_⟩⟩⟩
  rw [Nat.zero_add]
  exact (h.rows i hi).row k hk
/-- The rows of a table as lists. -/
def tabL (R : Nat) (ns : Nat → Nat) (zs : Nat → Nat → Int) : List (List Int) := (List.range R).map fun i => rowL (zs i) (ns i)
theorem atF_rowL {z : Nat → Int} {n i : Nat} (hi : i < n) : atF (rowL z n) i = z i := by
  unfold atF rowL
  rw [List.getD_eq_getElem?_getD, List.getElem?_map, List.getElem?_range hi]; rfl
theorem tab_lol {w : World} {v : Value} {R : Nat} {vs : Nat → Value} {ns : Nat → Nat} {zs : Nat → Nat → Int} (h : TabAt w v R vs ns zs) : LolAt w v (tabL R ns zs) := by
  have hl : (tabL R ns zs).length = R := by simp [tabL]
  rcases h with ⟨ad, cap, rfl, rfl⟩ | ⟨b, o, cap, rfl, h0, hr⟩
  · exact ⟨ad, cap, by simp [tabL], fun i r hr => by simp [tabL] at hr⟩
  · refine ⟨some ⟨b, o, none⟩, cap, by rw [hl], fun i r hi => ?_⟩
    have hiR : i < R := by rw [← hl]; exact (List.getElem?_eq_some_iff.mp hi).1
    have e : r = rowL (zs i) (ns i) := by
      unfold tabL at hi
      rw [List.getElem?_map, List.getElem?_range hiR] at hi
      exact (Option.some.inj hi).symm
    subst e
    refine ⟨b, o, vs i, rfl, (hr i hiR).1, ?_⟩
    rw [rowL_length]
    exact (hr i hiR).2.congr fun k hk => (atF_rowL hk).symm
theorem tabL_same {R : Nat} {ns ns' : Nat → Nat} {zs zs' : Nat → Nat → Int} (h1 : ∀ i, i < R → ns i = ns' i) (h2 : ∀ i k, i < R → k < ns i → zs i k = zs' i k) : tabL R ns zs = tabL R ns' zs' := by
  refine List.map_congr_left fun i hi => ?_
  have hi' := List.mem_range.mp hi
  rw [← h1 i hi']
  exact List.map_congr_left fun k hk => h2 i k hi' (List.mem_range.mp hk)
theorem tabL_row {R : Nat} {ns : Nat → Nat} {zs : Nat → Nat → Int} {B : Nat} (h : ∀ i, i < R → ns i ≤ B) (r : List Int) (hr : r ∈ tabL R ns zs) : r.length ≤ B := by
  obtain ⟨i, hi, rfl⟩ := List.mem_map.mp hr
  rw [rowL_length]
  exact h i (List.mem_range.mp hi)

theorem Table_any (a : Nat → Addr) (u : Value) (n : Nat) (z : Nat → Int) (v : Value) (R : Nat) (vs : Nat → Value) (ns : Nat → Nat) (zs : Nat → Nat → Int) (w : World) (hE : Errs w a) (hu : NumsAt w u n z) (h : TabAt w v R vs ns zs) (hn : n ≤ 1000) (hR : R ≤ 40) (hns : ∀ i, i < R → ns i ≤ 400) :
    Calls Tryd.prog 12 #[u, v] w fun e w' => ∃ t', e = .returned (.tuple #[t', errV a (taErr n z R ns zs)]) ∧ (taErr n z R ns zs ≠ 0 → t' = .slice none 0 0) ∧ (taErr n z R ns zs = 0 → ∃ vs', TabAt w' t' R vs' (fun _ => ns 0) (outZ n z R (ns 0) zs)) ∧ Below w.heap.size w w' := by
  by_cases h1 : inErr n z R ns zs = 0
  · refine (Table_main a u n z v R vs ns zs w hE hu h h1).mono ?_
    rintro e w' ⟨hA, hB, hb⟩
    obtain ⟨hok, _⟩ := inOk_of h1
    by_cases h2 : 4096 < inL n z R (ns 0) zs
    · have ht : taErr n z R ns zs = 2 := by unfold taErr; rw [if_neg (by omega), if_pos h2]
      refine ⟨_, by rw [hB h2, ht], fun _ => rfl, fun h => ?_, hb⟩
      rw [ht] at h; cases h
    · have ht : taErr n z R ns zs = 0 := by unfold taErr; rw [if_neg (by omega), if_neg h2]
      obtain ⟨g, rb, he, hF⟩ := hA (by omega)
      exact ⟨_, by rw [he, ht]; rfl, fun h => absurd ht h, fun _ => ⟨_, hF.tab hok.n0 hok.c0⟩, hb⟩
  · have ht : taErr n z R ns zs = inErr n z R ns zs := by unfold taErr; rw [if_pos h1]
    by_cases h2 : chanErr R ns zs ≠ 0
    · have ht2 : taErr n z R ns zs = chanErr R ns zs := by rw [ht]; unfold inErr; rw [if_pos h2]
      obtain ⟨ad, cap, rfl⟩ := hu.form
      refine (Table_chan a ad n cap v R vs ns zs w hE h hR hns h2).mono ?_
      rintro e w' ⟨rfl, rfl⟩
      exact ⟨_, by rw [ht2], fun _ => rfl, fun h => by rw [ht2] at h; exact absurd h h2, Below.refl _ _⟩
    · by_cases h3 : weightsErr z n ≠ 0
      · have ht2 : taErr n z R ns zs = weightsErr z n := by rw [ht]; unfold inErr; rw [if_neg h2, if_pos h3]
        refine (Table_weights a u n z v R vs ns zs w hE hu h hn hR hns (by omega) h3).mono ?_
        rintro e w' ⟨rfl, rfl⟩
        exact ⟨_, by rw [ht2], fun _ => rfl, fun h => by rw [ht2] at h; exact absurd h h3, Below.refl _ _⟩
      · have hne : n ≠ R := fun e => h1 (by unfold inErr; rw [if_neg h2, if_neg h3, if_neg (by omega)])
        have ht2 : taErr n z R ns zs = 3 := by rw [ht]; unfold inErr; rw [if_neg h2, if_neg h3, if_pos hne]
        refine (Table_lens a u n z v R vs ns zs w hE hu h hn hR hns (by omega) (by omega) hne).mono ?_
        rintro e w' ⟨rfl, hb⟩
        exact ⟨_, by rw [ht2], fun _ => rfl, (fun h => by rw [ht2] at h; cases h), hb⟩

/-- The two rows of the closed fact. -/
def noisZ (i k : Nat) : Int := if i = k then 3 else 1
theorem noisy_err : inErr 2 (fun _ => 1) 2 (fun _ => 2) noisZ = 0 := by decide
theorem noisy_ta : taErr 2 (fun _ => 1) 2 (fun _ => 2) noisZ = 0 := by decide +kernel
theorem noisy_out (i k : Nat) (hi : i < 2) (hk : k < 2) : outZ 2 (fun _ => 1) 2 2 noisZ i k = noisZ i k := by
  rcases (show i = 0 ∨ i = 1 by omega) with rfl | rfl <;> rcases (show k = 0 ∨ k = 1 by omega) with rfl | rfl <;> decide +kernel
theorem topc_cell (W : World) (c : Array Value) (t : TypeId) {b : Nat} (j : Nat) (hb : b = W.heap.size) : (W.alloc (.cells c t)).cell? ⟨b, j, none⟩ = c[j]? := by subst hb; simp
theorem noisy_table (w : World) (t1 t2 : TypeId) : TabAt (((w.alloc (.cells #[.int .i64 3, .int .i64 1] t1)).alloc (.cells #[.int .i64 1, .int .i64 3] t1)).alloc (.cells #[.slice (some ⟨w.heap.size, 0, none⟩) 2 2, .slice (some ⟨w.heap.size + 1, 0, none⟩) 2 2] t2)) (.slice (some ⟨w.heap.size + 1 + 1, 0, none⟩) 2 2) 2 (fun i => .slice (some ⟨w.heap.size + i, 0, none⟩) 2 2) (fun _ => 2) noisZ := by
  refine Or.inr ⟨_, _, _, rfl, by decide, fun i hi => ⟨?_, Or.inr ⟨_, _, _, rfl, (by show 0 < 2; decide), fun k hk => ?_⟩⟩⟩
  · rcases (show i = 0 ∨ i = 1 by omega) with rfl | rfl
    · exact topc_cell _ _ _ _ (by simp)
    · exact topc_cell _ _ _ _ (by simp)
  · have hk2 : k < 2 := hk
    rcases (show i = 0 ∨ i = 1 by omega) with rfl | rfl
    · rw [World.cell?_alloc_lt _ _ _ (by simp; omega), World.cell?_alloc_lt _ _ _ (by simp)]
      rcases (show k = 0 ∨ k = 1 by omega) with rfl | rfl
      · exact topc_cell _ _ _ _ rfl
      · exact topc_cell _ _ _ _ rfl
    · rw [World.cell?_alloc_lt _ _ _ (by simp)]
      rcases (show k = 0 ∨ k = 1 by omega) with rfl | rfl
      · exact topc_cell _ _ _ _ (by simp)
      · exact topc_cell _ _ _ _ (by simp)

set_option maxRecDepth 100000 in
set_option maxHeartbeats 4000000 in
theorem noisy_any (a : Nat → Addr) (w : World) (hE : Errs w a) : Calls Tryd.prog 6 #[] w fun e w' => e = .returned (.bool true) ∧ Below w.heap.size w w' := by
  obtain ⟨W0, hW0⟩ : ∃ W0, W0 = w.alloc (.cells #[.int .i64 1, .int .i64 1] 3) := ⟨_, rfl⟩
  obtain ⟨W3, hW3⟩ : ∃ W3, W3 = ((W0.alloc (.cells #[.int .i64 3, .int .i64 1] 3)).alloc (.cells #[.int .i64 1, .int .i64 3] 3)).alloc (.cells #[.slice (some ⟨W0.heap.size, 0, none⟩) 2 2, .slice (some ⟨W0.heap.size + 1, 0, none⟩) 2 2] 31) := ⟨_, rfl⟩
  have hs0 : W0.heap.size = w.heap.size + 1 := by rw [hW0]; simp
  have hb0 : Below w.heap.size w W0 := by rw [hW0]; exact (Below.refl _ _).alloc (Nat.le_refl _) _
  have hb3 : Below W0.heap.size W0 W3 := by rw [hW3]; exact (((Below.refl _ _).alloc (Nat.le_refl _) _).alloc (by simp) _).alloc (by simp; omega) _
  have htab : TabAt W3 (.slice (some ⟨W0.heap.size + 1 + 1, 0, none⟩) 2 2) 2 (fun i => .slice (some ⟨W0.heap.size + i, 0, none⟩) 2 2) (fun _ => 2) noisZ := by rw [hW3]; exact noisy_table W0 _ _
  have hnum : NumsAt W0 (.slice (some ⟨w.heap.size, 0, none⟩) 2 2) 2 (fun _ => 1) := by
    refine Or.inr ⟨_, _, _, rfl, by decide, fun i hi => ?_⟩
    rw [hW0]
    rcases (show i = 0 ∨ i = 1 by omega) with rfl | rfl
    · exact topc_cell _ _ _ _ rfl
    · exact topc_cell _ _ _ _ rfl
  have hT := Table_any a _ 2 (fun _ => 1) _ 2 _ (fun _ => 2) noisZ W3 (hE.below (below_chain hb0 hb3)) (hnum.later hb3) htab (by decide) (by decide) (fun _ _ => by decide)
  rw [noisy_ta, errV_zero] at hT
  have HB3 := Hid.mk' (below_chain hb0 hb3)
  rw [hW3, hs0, hW0] at hT
  clear htab hnum hb0 hb3 hE
  go_enter Tryd.func6, Tryd.ntmps6
  go_wp2_with fail
  refine hT.mono ?_
  clear hT
  rintro e w5 ⟨t5, rfl, _, ht5, hb5⟩
  obtain ⟨vs5, ht5⟩ := ht5 trivial
  rw [← hs0, ← hW0, ← hW3] at hb5
  obtain ⟨ad5, cap5, rfl⟩ := ht5.form
  have HL5 : Hid (LolAt w5 (.slice ad5 2 cap5) (tabL 2 (fun _ => 2) noisZ)) := by
    have := tab_lol ht5
    rw [tabL_same (ns' := fun _ => 2) (zs' := noisZ) (fun _ _ => rfl) (fun i k hi hk => noisy_out i k hi hk)] at this
    exact this
  have HB5 := Hid.mk' (below_chain HB3.out hb5)
  clear ht5 hb5 hs0 hW0 hW3
  go_wp2_with fail
  have HB6 : Hid (Below w5.heap.size w5 (((w5.alloc (.cells #[.int .i64 3, .int .i64 1] 3)).alloc (.cells #[.int .i64 1, .int .i64 3] 3)).alloc (.cells #[.slice (some ⟨w5.heap.size, 0, none⟩) 2 2, .slice (some ⟨w5.heap.size + 1, 0, none⟩) 2 2] 31))) := (((Below.refl _ _).alloc (Nat.le_refl _) _).alloc (by simp) _).alloc (by simp; omega) _
  refine (SameLists_any _ _ (tabL 2 (fun _ => 2) noisZ) _ (HL5.out.later HB6.out) (tab_lol (noisy_table w5 3 31)) (by decide) (fun r hr => Nat.le_trans (tabL_row (B := 2) (fun _ _ => Nat.le_refl _) r hr) (by decide))).mono ?_
  rintro e w7 ⟨rfl, hb7⟩
  have HB7 := Hid.mk' (below_chain HB5.out (below_chain HB6.out hb7))
  clear hb7
  go_wp2_with fail
  go_ret
  exact ⟨rfl, HB7.out⟩
end Go.Proofs.YtnihclkaaglnjaaDoor
