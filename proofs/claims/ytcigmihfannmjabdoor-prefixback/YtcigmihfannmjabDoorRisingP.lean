/- prefix.rising: the places, put in order by a stable sort. -/
import Derived.Test.YtcigmihfannmjabDoorPreLen
import Derived.Test.YtcigmihfannmjabDoorSortOrd
import Derived.Test.YtcigmihfannmjabDoorFills
import Derived.Test.YtcigmihfannmjabDoorBig
import Derived.BigQuiet
import Derived.Deep.QuietTactic
namespace Go.Proofs.YtcigmihfannmjabDoor
open Go.RowKit

theorem compare_any (x y : Int) (w : World) : Calls Tryd.prog 55 #[.int .i64 x, .int .i64 y] w fun e w' => e = .returned (.int .i64 (Lib.compareInt x y)) ∧ w' = w := Any.cmp_Compare_int Tryd.compareA x y w
set_option maxRecDepth 100000 in
theorem byNumber (B b o n cap i k : Nat) (z : Nat → Int) (w : World) (hB : w.cell? ⟨B, 0, none⟩ = some (.slice (some ⟨b, o, none⟩) n cap)) (hr : RowAt w b o n z) (hi : i < n) (hk : k < n) :
    Calls Tryd.prog 60 #[.int .i64 i, .int .i64 k, .pointer (some ⟨B, 0, none⟩)] w fun e w' => e = .returned (.int .i64 (Lib.compareInt (z i) (z k))) ∧ ∃ q, w' = w.drewN q := by
  have h1 := hr i hi
  have h2 := hr k hk
  have hi1 : (i : Int) < (n : Int) := by omega
  have hk1 : (k : Int) < (n : Int) := by omega
  have hi0 : (0 : Int) ≤ (i : Int) := by omega
  have hk0 : (0 : Int) ≤ (k : Int) := by omega
  clear hr
  generalize z i = x at *
  generalize z k = y at *
  go_enter Tryd.func60, Tryd.ntmps60
  go_wp2_with (go_quiet ((go_at_call 55; exact Calls.quiet_of_same (compare_any _ _ _))))
  go_ret
  exact ⟨rfl, _, rfl⟩
/-- A place in memory; places behind the last are not met. -/
def placeV (n : Nat) (x : Nat) : Value := .int .i64 ((x % n : Nat) : Int)
def placeC (n : Nat) (z : Nat → Int) (x y : Nat) : Int := Lib.compareInt (z (x % n)) (z (y % n))
theorem placeV_at {n x : Nat} (h : x < n) : placeV n x = .int .i64 (x : Int) := by unfold placeV; rw [Nat.mod_eq_of_lt h]
theorem sort_cell {w : World} {enc : Nat → Value} {g m : Nat} {dk : Array Nat} {os : Array Obj} {p : Addr} {v : Value} (hp : p.block ≠ g) (h : w.cell? p = some v) : (sortWorld enc w g 0 m dk os).cell? p = some v := by
  unfold sortWorld
  have hl := cell_lt h
  rw [Sort.cell?_grow _ _ _ (by simp [Sort.putRow, Sort.mapBlock, Sort.ahead]; exact hl), Sort.cell?_putRow_other _ _ _ _ _ _ (Or.inl hp)]
  exact h
theorem cmpReads (B b o n cap g : Nat) (z : Nat → Int) (w : World) (hn0 : 0 < n) (hB : w.cell? ⟨B, 0, none⟩ = some (.slice (some ⟨b, o, none⟩) n cap)) (hr : RowAt w b o n z) (hBg : B ≠ g) (hbg : b ≠ g) :
    CmpReads Tryd.prog 60 #[.pointer (some ⟨B, 0, none⟩)] (placeV n) (placeC n z) g 0 n w := by
  intro m os dk _ x y
  exact byNumber B b o n cap (x % n) (y % n) z _ (sort_cell hBg hB) (fun i hi => sort_cell hbg (hr i hi)) (Nat.mod_lt _ hn0) (Nat.mod_lt _ hn0)
set_option maxRecDepth 100000 in
theorem stable_any (B b o n cap g : Nat) (z : Nat → Int) (w : World) (hn0 : 0 < n) (hn : n ≤ 16) (hB : w.cell? ⟨B, 0, none⟩ = some (.slice (some ⟨b, o, none⟩) n cap)) (hr : RowAt w b o n z) (hBg : B ≠ g) (hbg : b ≠ g)
    (hg : RowAt w g 0 n (fun j => (j : Int))) (hf : ∀ j, j < n → w.frozen? ⟨g, 0 + j, none⟩ = false) :
    Calls Tryd.prog 59 #[.slice (some ⟨g, 0, none⟩) n n, .func (.func 60) #[] #[.pointer (some ⟨B, 0, none⟩)]] w fun e w' => e = .returned (.tuple #[]) ∧ ∃ m, w' = (Sort.putRow (placeV n) w g 0 (Sort.insertionSort (ltOf (placeC n z)) (List.range n).toArray 0 n)).drewN m := by
  have hH : Sort.Holds (placeV n) w g 0 (List.range n).toArray := fun j hj => by
    have hj' : j < n := by simpa using hj
    refine ⟨?_, hf j hj'⟩
    rw [getElem!_pos (List.range n).toArray j hj]
    simp only [List.getElem_toArray, List.getElem_range]
    rw [placeV_at hj']; exact hg j hj'
  have hins := Any.insertionSortCmpFunc_one Tryd.insertA (placeV n) (fun _ => rfl) (placeC n z) 60 #[.pointer (some ⟨B, 0, none⟩)] g 0 n 0 n (List.range n).toArray w (enters_of Tryd.func60 (by kernel_rfl) rfl) (by simpa using cmpReads B b o n cap g z w hn0 hB hr hBg hbg) hH (Nat.zero_le _) (by simp) (by simp; omega)
  rw [show (List.range n).toArray.size = n by simp] at hins
  clear hH hB hr hg hf
  have hst : Calls Tryd.prog 73 #[.slice (some ⟨g, 0, none⟩) n n, .int .i64 n, .func (.func 60) #[] #[.pointer (some ⟨B, 0, none⟩)]] w fun e w' => e = .returned (.tuple #[]) ∧ ∃ m, w' = (Sort.putRow (placeV n) w g 0 (Sort.insertionSort (ltOf (placeC n z)) (List.range n).toArray 0 n)).drewN m := by
    generalize Sort.putRow (placeV n) w g 0 (Sort.insertionSort (ltOf (placeC n z)) (List.range n).toArray 0 n) = W at *
    have hn20 : (n : Int) < 20 := by omega
    go_enter Tryd.func73, Tryd.ntmps73
    go_wp2_with fail
    refine wp_loop_rounds 1 ?_
    rw [rounds_succ]
    go_wp2_with fail
    refine hins.mono ?_
    clear hins
    rintro e w1 ⟨rfl, m, rfl⟩
    go_wp2_with fail
    refine wp_loop_rounds 1 ?_
    rw [rounds_succ]
    go_wp2_with fail
    exact bodyPost_end (results_none Tryd.results73 _ _ _) rfl ⟨rfl, m, rfl⟩
  clear hins
  generalize Sort.putRow (placeV n) w g 0 (Sort.insertionSort (ltOf (placeC n z)) (List.range n).toArray 0 n) = W at *
  go_enter Tryd.func59, Tryd.ntmps59
  go_wp2_with fail
  refine hst.mono ?_
  clear hst
  rintro e w1 ⟨rfl, m, rfl⟩
  go_wp2_with fail
  exact bodyPost_end (results_none Tryd.results59 _ _ _) rfl ⟨rfl, m, rfl⟩
theorem placeC_lt (n : Nat) (z : Nat → Int) : ltOf (placeC n z) = ltL (fun x => z (x % n)) := by
  funext x y
  unfold ltOf placeC ltL Lib.compareInt
  by_cases h : z (x % n) < z (y % n)
  · simp [h]
  · simp only [h, if_false]
    split <;> simp
theorem rowOf_mod (z : Nat → Int) (v : Int) (n : Nat) : rowOf (fun x => z (x % n)) v n = rowOf z v n := by
  unfold rowOf
  refine List.filter_congr fun x hx => ?_
  show decide (z (x % n) = v) = _
  rw [Nat.mod_eq_of_lt (List.mem_range.1 hx)]
theorem ordL_mod (z : Nat → Int) (n : Nat) : ∀ V, ordL (fun x => z (x % n)) n V = ordL z n V
  | 0 => rfl
  | V + 1 => by rw [ordL, ordL, ordL_mod z n V, rowOf_mod]
theorem ordL_all {z : Nat → Int} {n : Nat} (hz : ∀ i, i < n → 1 ≤ z i ∧ z i ≤ 40) : (ordL z n 40).length = n := by
  have hperm : (ordL z n 40).Perm (List.range n) := (List.perm_ext_iff_of_nodup (ordL_nodup 40) List.nodup_range).2 (fun k => by
    rw [ordL_mem, List.mem_range]
    exact ⟨fun h => h.1, fun h => ⟨h, (hz k h).1, (hz k h).2⟩⟩)
  rw [hperm.length_eq, List.length_range]
theorem below_putRow {B g : Nat} {w W : World} {enc : Nat → Value} {D : Array Nat} (h : Below B w W) (hg : B ≤ g) : Below B w (Sort.putRow enc W g 0 D) :=
  ⟨h.os, h.tape, h.output, by simpa using h.size, fun k hk => by
    rw [← h.block k hk]
    simp only [Sort.putRow, Sort.mapBlock, Array.getElem?_modify]
    rw [if_neg (by omega)]⟩
set_option maxRecDepth 100000 in
set_option maxHeartbeats 1000000 in
theorem rising_any (v : Value) (n : Nat) (z : Nat → Int) (w : World) (h : NumsAt w v n z) (hn0 : 0 < n) (hn : n ≤ 16) (hz : ∀ i, i < n → 1 ≤ z i ∧ z i ≤ 40) :
    Calls Tryd.prog 41 #[v] w fun e w' => ∃ g, e = .returned (.slice (some ⟨g, 0, none⟩) n n) ∧ RowAt w' g 0 n (fun j => ((ordL z n 40).getD j 0 : Nat)) ∧ Below w.heap.size w w' := by
  obtain ⟨i0, hii, hz0, hz1, hz2⟩ := info_parts Tryd.infoInt
  have HINF : Hid (Tryd.prog.info? 3 = some i0 ∧ i0.zero = some (.int .i64 0) ∧ i0.size = 1 ∧ i0.bytes = 8) := ⟨hii, hz0, hz1, hz2⟩
  clear hii hz0 hz1 hz2
  rcases h with ⟨_, _, _, h0⟩ | ⟨b, o, cap, rfl, _, hr⟩
  · omega
  have HR := Hid.mk' hr
  have hbw : b < w.heap.size := by have := cell_lt (hr 0 hn0); exact this
  clear hr
  obtain ⟨W0, hW0⟩ : ∃ W0, W0 = w.alloc (.cells #[.slice (some ⟨b, o, none⟩) n cap] 22) := ⟨_, rfl⟩
  have hB0 : W0.cell? ⟨w.heap.size, 0, none⟩ = some (.slice (some ⟨b, o, none⟩) n cap) := by rw [hW0, World.cell?_alloc_at _ _ _ _ rfl]; rfl
  have HBW : Hid (Below w.heap.size w W0) := by rw [hW0]; exact (Below.refl _ _).alloc (Nat.le_refl _) _
  have hsz : W0.heap.size = w.heap.size + 1 := by rw [hW0]; simp
  have HSZ := Hid.mk' hsz
  clear hsz
  go_enter Tryd.func41, Tryd.ntmps41
  go_wp2_with (at_make; go_must (rw [← hW0]; clear hW0; refine wpList_make_full _ rfl _ _ _ rfl W0.heap.size 3 i0 _ 1 Tryd.underlying22 HINF.out.1 HINF.out.2.1 HINF.out.2.2.1 .i64 .i64 _ _ n rfl rfl rfl rfl (by rw [HINF.out.2.2.2]; omega) (by unfold maxLen; omega) (Nat.le_refl _) ?_; intro w3 hown3 hgrow3; have HF3 := Hid.mk' (fills_made hown3 (made_zero n) hgrow3); clear hown3 hgrow3))
  go_loopw [10] (fun t wr => ∃ k : Nat, k ≤ n ∧ t = .int .i64 k ∧ Hid (Fills W0 wr W0.heap.size n (fun j => if j < k then (j : Int) else 0))) (fun t _ => n - (intOf t).toNat)
  case atStart => exact ⟨0, Nat.zero_le _, rfl, by simpa using HF3⟩
  case round =>
    clear HF3
    obtain ⟨k, hk, rfl, HF⟩ := hrel
    rcases Nat.lt_or_ge k n with h1 | h1
    · have hkn : (k : Int) < (n : Int) := by omega
      have hk0 : (0 : Int) ≤ (k : Int) := by omega
      have hcF := HF.out.row k h1
      have hfz := HF.out.fz k h1
      rw [Nat.zero_add] at hcF hfz
      rw [if_neg (by omega)] at hcF
      have HS := Hid.mk' (HF.out.set h1 (k : Int) (f' := fun j => if j < k + 1 then (j : Int) else 0) (fun c hc => by
        by_cases h5 : c = k
        · rw [if_pos (by omega), if_pos h5, h5]
        · rw [if_neg h5]
          by_cases h6 : c < k
          · rw [if_pos (by omega), if_pos h6]
          · rw [if_neg (by omega), if_neg h6]))
      go_wp2_with fail
      exact ⟨⟨k + 1, h1, by go_num, HS⟩, by simp [intOf]; omega⟩
    · obtain rfl : k = n := by omega
      have hrow : RowAt wr W0.heap.size 0 k (fun j => (j : Int)) := fun j hj => by have := HF.out.row j hj; rwa [if_pos hj] at this
      have hBw : wr.cell? ⟨w.heap.size, 0, none⟩ = some (.slice (some ⟨b, o, none⟩) k cap) := by rw [HF.out.below.cell (cell_lt hB0)]; exact hB0
      have hrw : RowAt wr b o k z := (HR.out.later HBW.out).later HF.out.below
      have hss := HSZ.out
      have hst := stable_any w.heap.size b o k cap W0.heap.size z wr hn0 hn hBw hrw (by omega) (by omega) hrow HF.out.fz
      rw [placeC_lt] at hst
      have hord := sort_ord (fun x => z (x % k)) k (fun i hi => by rw [Nat.mod_eq_of_lt hi]; exact hz i hi)
      rw [ordL_mod] at hord
      have hlen := ordL_all hz
      have hH : Sort.Holds (placeV k) wr W0.heap.size 0 (List.range k).toArray := fun j hj => by
        have hj' : j < k := by simpa using hj
        refine ⟨?_, HF.out.fz j hj'⟩
        rw [getElem!_pos (List.range k).toArray j hj]
        simp only [List.getElem_toArray, List.getElem_range]
        rw [placeV_at hj']; exact hrow j hj'
      obtain ⟨D, hD⟩ : ∃ D, D = Sort.insertionSort (ltL fun x => z (x % k)) (List.range k).toArray 0 k := ⟨_, rfl⟩
      rw [← hD] at hst hord
      have hDl : D.size = k := by rw [← Array.length_toList, hord, hlen]
      have hres : ∀ m, RowAt ((Sort.putRow (placeV k) wr W0.heap.size 0 D).drewN m) W0.heap.size 0 k (fun j => ((ordL z k 40).getD j 0 : Nat)) := fun m j hj => by
        rw [World.cell?_drewN, Sort.cell?_putRow (placeV k) wr W0.heap.size 0 _ D hH (by simp [hDl]) j (by omega)]
        have e1 : D[j]! = (ordL z k 40).getD j 0 := by
          rw [getElem!_pos D j (by omega), ← hord, List.getD_eq_getElem?_getD, List.getElem?_eq_getElem (by simp; omega)]
          simp
        have e2 : (ordL z k 40).getD j 0 < k := by
          have hm : (ordL z k 40).getD j 0 ∈ ordL z k 40 := by
            rw [List.getD_eq_getElem?_getD, List.getElem?_eq_getElem (by omega)]
            simp
          exact (ordL_mem.1 hm).1
        rw [e1, placeV_at e2]
      have hbel : ∀ m, Below w.heap.size w ((Sort.putRow (placeV k) wr W0.heap.size 0 D).drewN m) := fun m => below_drewN (below_putRow (HBW.out.trans (HF.out.below.mono (by omega))) (by omega)) m
      have HRES := Hid.mk' hres
      have HBEL := Hid.mk' hbel
      clear hrow hBw hrw hss hord hlen hH hD hDl hres hbel
      generalize Sort.putRow (placeV k) wr W0.heap.size 0 D = W at *
      go_wp2_with fail
      refine hst.mono ?_
      clear hst
      rintro e w5 ⟨rfl, m, rfl⟩
      go_wp2_with fail
      go_ret
      exact ⟨_, rfl, HRES.out m, HBEL.out m⟩
end Go.Proofs.YtcigmihfannmjabDoor
