/- order.falling: the places of a list, put in order by a stable sort. -/
import Derived.Test.YtgopohbombnflaaDoorOrMath
import Derived.Test.YtgopohbombnflaaDoorFills
import Derived.Test.YtgopohbombnflaaDoorValidWalk
import Derived.Test.YtgopohbombnflaaDoorLaysC
import Derived.Sort.LotA
import Derived.BigQuiet
import Derived.Deep.QuietTactic
namespace Go.Proofs.YtgopohbombnflaaDoor
open Go.RowKit Go.Shelf Go.Sort

theorem compare_any (x y : Int) (w : World) : Calls Tryd.prog 49 #[.int .i64 x, .int .i64 y] w fun e w' => e = .returned (.int .i64 (Lib.compareInt x y)) ∧ w' = w := Any.cmp_Compare_int Tryd.compareA x y w
set_option maxRecDepth 100000 in
theorem byNumber (B b o n cap i k : Nat) (z : Nat → Int) (w : World) (hB : w.cell? ⟨B, 0, none⟩ = some (.slice (some ⟨b, o, none⟩) n cap)) (hr : RowAt w b o n z) (hi : i < n) (hk : k < n) :
    Calls Tryd.prog 48 #[.int .i64 i, .int .i64 k, .pointer (some ⟨B, 0, none⟩)] w fun e w' => e = .returned (.int .i64 (Lib.compareInt (z k) (z i))) ∧ ∃ q, w' = w.drewN q := by
  have h1 := hr i hi
  have h2 := hr k hk
  have hi1 : (i : Int) < (n : Int) := by omega
  have hk1 : (k : Int) < (n : Int) := by omega
  have hi0 : (0 : Int) ≤ (i : Int) := by omega
  have hk0 : (0 : Int) ≤ (k : Int) := by omega
  clear hr
  generalize z i = x at *
  generalize z k = y at *
  go_enter Tryd.func48, Tryd.ntmps48
  go_wp2_with (go_quiet ((go_at_call 49; exact Calls.quiet_of_same (compare_any _ _ _))))
  go_ret
  exact ⟨rfl, _, rfl⟩
/-- A place in memory; places behind the last are not met. -/
def placeV (n : Nat) (x : Nat) : Value := .int .i64 ((x % n : Nat) : Int)
def placeC (n : Nat) (z : Nat → Int) (x y : Nat) : Int := Lib.compareInt (z (y % n)) (z (x % n))
theorem placeV_at {n x : Nat} (h : x < n) : placeV n x = .int .i64 (x : Int) := by unfold placeV; rw [Nat.mod_eq_of_lt h]
theorem sort_cell {w : World} {enc : Nat → Value} {g m : Nat} {dk : Array Nat} {os : Array Obj} {p : Addr} {v : Value} (hp : p.block ≠ g) (h : w.cell? p = some v) : (sortWorld enc w g 0 m dk os).cell? p = some v := by
  unfold sortWorld
  have hl := cell_lt h
  rw [Sort.cell?_grow _ _ _ (by simp [Sort.putRow, Sort.mapBlock, Sort.ahead]; exact hl), Sort.cell?_putRow_other _ _ _ _ _ _ (Or.inl hp)]
  exact h
theorem cmpReads (B b o n cap g : Nat) (z : Nat → Int) (w : World) (hn0 : 0 < n) (hB : w.cell? ⟨B, 0, none⟩ = some (.slice (some ⟨b, o, none⟩) n cap)) (hr : RowAt w b o n z) (hBg : B ≠ g) (hbg : b ≠ g) :
    CmpReads Tryd.prog 48 #[.pointer (some ⟨B, 0, none⟩)] (placeV n) (placeC n z) g 0 n w := by
  intro m os dk _ x y
  exact byNumber B b o n cap (x % n) (y % n) z _ (sort_cell hBg hB) (fun i hi => sort_cell hbg (hr i hi)) (Nat.mod_lt _ hn0) (Nat.mod_lt _ hn0)
set_option maxRecDepth 100000 in
theorem stable_any (B b o n cap g : Nat) (z : Nat → Int) (w : World) (hn0 : 0 < n) (hn : n ≤ 16) (hB : w.cell? ⟨B, 0, none⟩ = some (.slice (some ⟨b, o, none⟩) n cap)) (hr : RowAt w b o n z) (hBg : B ≠ g) (hbg : b ≠ g)
    (hg : RowAt w g 0 n (fun j => (j : Int))) (hf : ∀ j, j < n → w.frozen? ⟨g, 0 + j, none⟩ = false) :
    Calls Tryd.prog 61 #[.slice (some ⟨g, 0, none⟩) n n, .func (.func 48) #[] #[.pointer (some ⟨B, 0, none⟩)]] w fun e w' => e = .returned (.tuple #[]) ∧ ∃ m, w' = (Sort.putRow (placeV n) w g 0 (Sort.insertionSort (ltOf (placeC n z)) (List.range n).toArray 0 n)).drewN m := by
  have hH : Sort.Holds (placeV n) w g 0 (List.range n).toArray := fun j hj => by
    have hj' : j < n := by simpa using hj
    refine ⟨?_, hf j hj'⟩
    rw [getElem!_pos (List.range n).toArray j hj]
    simp only [List.getElem_toArray, List.getElem_range]
    rw [placeV_at hj']; exact hg j hj'
  have hins := Any.insertionSortCmpFunc_one Tryd.insertA (placeV n) (fun _ => rfl) (placeC n z) 48 #[.pointer (some ⟨B, 0, none⟩)] g 0 n 0 n (List.range n).toArray w (enters_of Tryd.func48 (by kernel_rfl) rfl) (by simpa using cmpReads B b o n cap g z w hn0 hB hr hBg hbg) hH (Nat.zero_le _) (by simp) (by simp; omega)
  rw [show (List.range n).toArray.size = n by simp] at hins
  clear hH hB hr hg hf
  have hst : Calls Tryd.prog 66 #[.slice (some ⟨g, 0, none⟩) n n, .int .i64 n, .func (.func 48) #[] #[.pointer (some ⟨B, 0, none⟩)]] w fun e w' => e = .returned (.tuple #[]) ∧ ∃ m, w' = (Sort.putRow (placeV n) w g 0 (Sort.insertionSort (ltOf (placeC n z)) (List.range n).toArray 0 n)).drewN m := by
    generalize Sort.putRow (placeV n) w g 0 (Sort.insertionSort (ltOf (placeC n z)) (List.range n).toArray 0 n) = W at *
    have hn20 : (n : Int) < 20 := by omega
    go_enter Tryd.func66, Tryd.ntmps66
    go_wp2_with fail
    refine wp_loop_rounds 1 ?_
    rw [rounds_succ]
    go_wp2_with fail
    refine hins.mono ?_
    clear hins
    rintro e w1 ⟨rfl, m, rfl⟩
    go_wp2_with fail
    refine wp_loop_rounds 1 ?_
    rw [rounds_succ]
    go_wp2_with fail
    exact bodyPost_end (results_none Tryd.results66 _ _ _) rfl ⟨rfl, m, rfl⟩
  clear hins
  generalize Sort.putRow (placeV n) w g 0 (Sort.insertionSort (ltOf (placeC n z)) (List.range n).toArray 0 n) = W at *
  go_enter Tryd.func61, Tryd.ntmps61
  go_wp2_with fail
  refine hst.mono ?_
  clear hst
  rintro e w1 ⟨rfl, m, rfl⟩
  go_wp2_with fail
  exact bodyPost_end (results_none Tryd.results61 _ _ _) rfl ⟨rfl, m, rfl⟩
theorem placeC_lt (n : Nat) (z : Nat → Int) : ltOf (placeC n z) = fun x y => decide (z (y % n) < z (x % n)) := by
  funext x y
  unfold ltOf placeC Lib.compareInt
  by_cases h : z (y % n) < z (x % n)
  · simp [h]
  · simp only [h, if_false]
    split <;> simp
theorem placeC_swo (n : Nat) (z : Nat → Int) : SWO (ltOf (placeC n z)) := by
  rw [placeC_lt]
  exact ⟨fun x => by simp, fun x y z h1 h2 => by simp at *; omega, fun x y z h1 h2 => by simp at *; omega⟩
/-- What the sort leaves. -/
theorem sorted_places (n : Nat) (z : Nat → Int) : ∃ D : List Nat, (Sort.insertionSort (ltOf (placeC n z)) (List.range n).toArray 0 n).toList = D ∧ D.Perm (List.range n) ∧ D.map z = fallL z n := by
  have h := insertionSort_holds (lt := ltOf (placeC n z)) (placeC_swo n z) (List.range n).toArray 0 n (Nat.zero_le _) (by simp)
  generalize Sort.insertionSort (ltOf (placeC n z)) (List.range n).toArray 0 n = A at *
  obtain ⟨⟨hs, _, hp⟩, hd⟩ := h
  have hs' : A.size = n := by simpa using hs
  have hperm : A.toList.Perm (List.range n) := by
    have e1 : A.extract 0 n = A := by rw [← hs']; simp
    have e2 : (List.range n).toArray.extract 0 n = (List.range n).toArray := by simp
    rw [e1, e2] at hp
    exact hp
  refine ⟨A.toList, rfl, hperm, fall_sorted z n _ hperm (fun i j hij hj => ?_)⟩
  have h1 := hd i j (Nat.zero_le _) hij hj
  rw [placeC_lt] at h1
  have g : ∀ k, k < n → A[k]! = A.toList.getD k 0 ∧ A.toList.getD k 0 < n := fun k hk => by
    have e : A[k]! = A.toList.getD k 0 := by
      rw [getElem!_pos A k (by omega)]
      simp [List.getD, hs', hk]
    refine ⟨e, ?_⟩
    have hm : A.toList.getD k 0 ∈ A.toList := by
      rw [List.getD_eq_getElem?_getD, List.getElem?_eq_getElem (by simpa using (by omega : k < A.size))]
      exact List.getElem_mem _
    exact List.mem_range.1 (hperm.mem_iff.1 hm)
  obtain ⟨a1, a2⟩ := g i (by omega)
  obtain ⟨b1, b2⟩ := g j hj
  have h2 : decide (z (A.toList.getD i 0 % n) < z (A.toList.getD j 0 % n)) = false := by rw [a1, b1] at h1; exact h1
  rw [Nat.mod_eq_of_lt a2, Nat.mod_eq_of_lt b2] at h2
  simpa using h2
theorem below_putRow {B g : Nat} {w W : World} {enc : Nat → Value} {D : Array Nat} (h : Below B w W) (hg : B ≤ g) : Below B w (Sort.putRow enc W g 0 D) :=
  ⟨h.os, h.tape, h.output, by simpa using h.size, fun k hk => by
    rw [← h.block k hk]
    simp only [Sort.putRow, Sort.mapBlock, Array.getElem?_modify]
    rw [if_neg (by omega)]⟩
set_option maxRecDepth 100000 in
set_option maxHeartbeats 1000000 in
theorem inOrder_fall (B b o n cap : Nat) (z : Nat → Int) (w : World) (hn0 : 0 < n) (hn : n ≤ 16) (hB : w.cell? ⟨B, 0, none⟩ = some (.slice (some ⟨b, o, none⟩) n cap)) (hr : RowAt w b o n z) :
    Calls Tryd.prog 47 #[.int .i64 n, .func (.func 48) #[] #[.pointer (some ⟨B, 0, none⟩)]] w fun e w' => ∃ g, ∃ D : List Nat, e = .returned (.slice (some ⟨g, 0, none⟩) n n) ∧ D.Perm (List.range n) ∧ D.map z = fallL z n ∧ RowAt w' g 0 n (fun j => (D.getD j 0 : Nat)) ∧ Below w.heap.size w w' := by
  obtain ⟨i0, hii, hz0, hz1, hz2⟩ := info_parts Tryd.infoInt
  have HINF : Hid (Tryd.prog.info? 3 = some i0 ∧ i0.zero = some (.int .i64 0) ∧ i0.size = 1 ∧ i0.bytes = 8) := ⟨hii, hz0, hz1, hz2⟩
  clear hii hz0 hz1 hz2
  have HBc := Hid.mk' hB
  have HR := Hid.mk' hr
  have hBw : B < w.heap.size := cell_lt hB
  have hbw : b < w.heap.size := by have := cell_lt (hr 0 hn0); exact this
  clear hr hB
  go_enter Tryd.func47, Tryd.ntmps47
  go_wp2_with (at_make; go_must (refine wpList_make_full _ rfl _ _ _ rfl w.heap.size 3 i0 _ 1 Tryd.underlying22 HINF.out.1 HINF.out.2.1 HINF.out.2.2.1 .i64 .i64 _ _ n rfl rfl rfl rfl (by rw [HINF.out.2.2.2]; omega) (by unfold maxLen; omega) (Nat.le_refl _) ?_; intro w3 hown3 hgrow3; have HF3 := Hid.mk' (fills_made hown3 (made_zero n) hgrow3); clear hown3 hgrow3))
  go_loopw [11] (fun t wr => ∃ k : Nat, k ≤ n ∧ t = .int .i64 k ∧ Hid (Fills w wr w.heap.size n (fun j => if j < k then (j : Int) else 0))) (fun t _ => n - (intOf t).toNat)
  case atStart => exact ⟨0, Nat.zero_le _, rfl, by simpa using HF3⟩
  case round =>
    clear HF3
    obtain ⟨k, hk, rfl, HF⟩ := hrel
    rcases Nat.lt_or_ge k n with h1 | h1
    · have hkn : (k : Int) < (n : Int) := by omega
      have hk0 : (0 : Int) ≤ (k : Int) := by omega
      have hcF := HF.out.row k h1
      have hfz := HF.out.fz k h1
      rw [Nat.zero_add] at hcF hfz
      rw [if_neg (by omega)] at hcF
      have HS := Hid.mk' (HF.out.set h1 (k : Int) (f' := fun j => if j < k + 1 then (j : Int) else 0) (fun c hc => by
        by_cases h5 : c = k
        · rw [if_pos (by omega), if_pos h5, h5]
        · rw [if_neg h5]
          by_cases h6 : c < k
          · rw [if_pos (by omega), if_pos h6]
          · rw [if_neg (by omega), if_neg h6]))
      go_wp2_with fail
      exact ⟨⟨k + 1, h1, by go_num, HS⟩, by simp [intOf]; omega⟩
    · obtain rfl : k = n := by omega
      have hrow : RowAt wr w.heap.size 0 k (fun j => (j : Int)) := fun j hj => by have := HF.out.row j hj; rwa [if_pos hj] at this
      have hBc : wr.cell? ⟨B, 0, none⟩ = some (.slice (some ⟨b, o, none⟩) k cap) := by rw [HF.out.below.cell hBw]; exact HBc.out
      have hrw : RowAt wr b o k z := HR.out.later HF.out.below
      have hst := stable_any B b o k cap w.heap.size z wr hn0 hn hBc hrw (by omega) (by omega) hrow HF.out.fz
      obtain ⟨D, hD, hperm, hmap⟩ := sorted_places k z
      have hlen : D.length = k := by rw [hperm.length_eq, List.length_range]
      have hH : Sort.Holds (placeV k) wr w.heap.size 0 (List.range k).toArray := fun j hj => by
        have hj' : j < k := by simpa using hj
        refine ⟨?_, HF.out.fz j hj'⟩
        rw [getElem!_pos (List.range k).toArray j hj]
        simp only [List.getElem_toArray, List.getElem_range]
        rw [placeV_at hj']; exact hrow j hj'
      obtain ⟨A, hA⟩ : ∃ A, A = Sort.insertionSort (ltOf (placeC k z)) (List.range k).toArray 0 k := ⟨_, rfl⟩
      rw [← hA] at hst hD
      have hDl : A.size = k := by rw [← Array.length_toList, hD, hlen]
      have hres : ∀ m, RowAt ((Sort.putRow (placeV k) wr w.heap.size 0 A).drewN m) w.heap.size 0 k (fun j => (D.getD j 0 : Nat)) := fun m j hj => by
        rw [World.cell?_drewN, Sort.cell?_putRow (placeV k) wr w.heap.size 0 _ A hH (by simp [hDl]) j (by omega)]
        have e1 : A[j]! = D.getD j 0 := by
          have e0 : A[j]! = A.toList.getD j 0 := by
            rw [getElem!_pos A j (by omega)]
            simp [List.getD, hDl, hj]
          rw [e0, hD]
        have e2 : D.getD j 0 < k := by
          have hm : D.getD j 0 ∈ D := by
            rw [List.getD_eq_getElem?_getD, List.getElem?_eq_getElem (by omega)]
            exact List.getElem_mem _
          exact List.mem_range.1 (hperm.mem_iff.1 hm)
        rw [e1, placeV_at e2]
      have hbel : ∀ m, Below w.heap.size w ((Sort.putRow (placeV k) wr w.heap.size 0 A).drewN m) := fun m => below_drewN (below_putRow HF.out.below (Nat.le_refl _)) m
      have HRES := Hid.mk' hres
      have HBEL := Hid.mk' hbel
      have HPM := Hid.mk' (And.intro hperm hmap)
      clear hrow hBc hrw hlen hH hD hA hDl hres hbel hperm hmap
      generalize Sort.putRow (placeV k) wr w.heap.size 0 A = W at *
      go_wp2_with fail
      refine hst.mono ?_
      clear hst
      rintro e w5 ⟨rfl, m, rfl⟩
      go_wp2_with fail
      go_ret
      exact ⟨_, D, rfl, HPM.out.1, HPM.out.2, HRES.out m, HBEL.out m⟩
set_option maxRecDepth 100000 in
theorem falling_any (v : Value) (n : Nat) (z : Nat → Int) (w : World) (h : NumsAt w v n z) (hn0 : 0 < n) (hn : n ≤ 16) :
    Calls Tryd.prog 34 #[v] w fun e w' => ∃ g, ∃ D : List Nat, e = .returned (.slice (some ⟨g, 0, none⟩) n n) ∧ D.Perm (List.range n) ∧ D.map z = fallL z n ∧ RowAt w' g 0 n (fun j => (D.getD j 0 : Nat)) ∧ Below w.heap.size w w' := by
  rcases h with ⟨_, _, _, h0⟩ | ⟨b, o, cap, rfl, _, hr⟩
  · omega
  have hbW : Below w.heap.size w (w.alloc (.cells #[.slice (some ⟨b, o, none⟩) n cap] 22)) := (Below.refl _ _).alloc (Nat.le_refl _) _
  have hio := inOrder_fall w.heap.size b o n cap z (w.alloc (.cells #[.slice (some ⟨b, o, none⟩) n cap] 22)) hn0 hn (by rw [World.cell?_alloc_at _ _ _ _ rfl]; rfl) (hr.later hbW)
  have HB := Hid.mk' hbW
  clear hr hbW
  go_enter Tryd.func34, Tryd.ntmps34
  go_wp2_with fail
  refine hio.mono ?_
  clear hio
  rintro e w2 ⟨g, D, rfl, h1, h2, h3, h4⟩
  have HH := Hid.mk' (And.intro h1 (And.intro h2 (And.intro h3 (below_chain HB.out h4))))
  clear h1 h2 h3 h4
  go_wp2_with fail
  go_ret
  exact ⟨g, D, rfl, HH.out.1, HH.out.2.1, HH.out.2.2.1, HH.out.2.2.2⟩
end Go.Proofs.YtgopohbombnflaaDoor
