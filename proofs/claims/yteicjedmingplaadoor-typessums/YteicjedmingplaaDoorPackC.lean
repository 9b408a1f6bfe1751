/- The document's types: how many, and all of them. -/
import Derived.Test.YteicjedmingplaaDoorLol
import Derived.Test.YteicjedmingplaaDoorTyMath
import Derived.Test.YteicjedmingplaaDoorCode
import Derived.Test.YteicjedmingplaaDoorWeights
import Derived.Test.YteicjedmingplaaDoorPackB
import Derived.Test.YteicjedmingplaaDoorPackA
import Derived.Test.YteicjedmingplaaDoorCopy
import Derived.Deep.CutRange
import Derived.Test.YteicjedmingplaaDoorRows
import Derived.ChangeSame
import Derived.ChangeVars
import Derived.JoinedOf
import Derived.LaidLaws
import Derived.LaidHandle
import Derived.LaidMore
import Derived.Stop.Joined
import Derived.Test.YteicjedmingplaaDoorInts
import Derived.Test.YteicjedmingplaaDoorCards
import Derived.Test.YteicjedmingplaaDoorTie
import Derived.SevenTiedAt
import Derived.ProofKit
import Derived.OpenShut
import Derived.ChangeOld
import Derived.Lib.SmallJoins
import Derived.Deep.Matrix
namespace Go.Proofs.YteicjedmingplaaDoor
open Go.RowKit

theorem two_heap1 (w : World) (X Y : Obj) : ((w.alloc X).alloc Y).heap[w.heap.size + 1]? = some Y := by
  show ((w.heap.push X).push Y)[w.heap.size + 1]? = some Y
  generalize w.heap = h
  have := Array.getElem?_push_size (xs := h.push X) (x := Y)
  rwa [Array.size_push] at this
theorem two_heap0 (w : World) (X Y : Obj) : ((w.alloc X).alloc Y).heap[w.heap.size]? = some X := by
  show ((w.heap.push X).push Y)[w.heap.size]? = some X
  generalize w.heap = h
  simp [Array.getElem?_push]
set_option maxRecDepth 100000 in
set_option maxHeartbeats 1000000 in
theorem FewError_bad (n k : Int) (w : World) (h : n < 0 ∨ 20 < n ∨ k < 1 ∨ 6 < k) : Calls Tryd.prog 8 #[.int .i64 n, .int .i64 k] w fun e w' => e = .returned (.int .i64 2) ∧ w' = w := by
  go_enter Tryd.func8, Tryd.ntmps8
  by_cases h1 : n < 0
  · clear h
    go_wp2_with fail
    go_ret
    exact ⟨rfl, rfl⟩
  · by_cases h2 : 20 < n
    · clear h
      go_wp2_with fail
      go_ret
      exact ⟨rfl, rfl⟩
    · by_cases h3 : k < 1
      · clear h
        go_wp2_with fail
        go_ret
        exact ⟨rfl, rfl⟩
      · have h4 : 6 < k := by omega
        clear h
        go_wp2_with fail
        go_ret
        exact ⟨rfl, rfl⟩
set_option maxRecDepth 100000 in
set_option maxHeartbeats 1000000 in
theorem FewError_ok (n k : Int) (w : World) (h1 : 0 ≤ n) (h2 : n ≤ 20) (h3 : 1 ≤ k) (h4 : k ≤ 6) : Calls Tryd.prog 8 #[.int .i64 n, .int .i64 k] w fun e w' => e = .returned (.int .i64 0) ∧ w' = w := by
  go_enter Tryd.func8, Tryd.ntmps8
  go_wp2_with fail
  go_ret
  exact ⟨rfl, rfl⟩

set_option maxRecDepth 100000 in
set_option maxHeartbeats 1000000 in
theorem CountOf_any : ∀ (k n : Nat) (w : World), k < 6 → n < 21 → Calls Tryd.prog 12 #[.int .i64 n, .int .i64 ((k : Int) + 1)] w fun e w' => e = .returned (.int .i64 (cntT k n : Nat)) ∧ Below w.heap.size w w'
  | 0, n, w, _, hn => by
    go_enter Tryd.func12, Tryd.ntmps12
    go_wp2_with fail
    go_ret
    exact ⟨rfl, Below.refl _ _⟩
  | k + 1, n, w, hk, hn => by
    have HI := Hid.mk' (fun (m : Nat) (W : World) (hm : m < 21) => CountOf_any k m W (by omega) hm)
    have HC := Hid.mk' (cntT_small hk hn)
    have HE : Hid (cntT (k + 1) n = cntS (fun i => cntT k (n - i)) (n + 1)) := rfl
    have hn0 : (0 : Int) ≤ (n : Int) := by omega
    have hn6 : (n : Int) < 21 := by omega
    rw [show (((k + 1 : Nat) : Int) + 1) = (k : Int) + 1 + 1 by omega]
    obtain ⟨K, hK⟩ : ∃ K : Int, K = (k : Int) + 1 + 1 := ⟨_, rfl⟩
    rw [← hK]
    rw [show (k : Int) + 1 = K - 1 by omega] at HI
    have hK2 : 2 ≤ K := by omega
    have hK6 : K ≤ 6 := by omega
    have hKb : (K == 1) = false := by simp; omega
    clear hK
    go_enter Tryd.func12, Tryd.ntmps12
    go_wp2_with fail
    go_loopw [5, 6] (fun s i wr => ∃ j : Nat, j ≤ n + 1 ∧ i = .int .i64 j ∧ s = .int .i64 (cntS (fun i => cntT k (n - i)) j : Nat) ∧ Hid (Below w.heap.size w wr)) (fun _ i _ => n + 1 - (intOf i).toNat)
    case atStart => exact ⟨0, Nat.zero_le _, rfl, rfl, Below.refl _ _⟩
    case round =>
      obtain ⟨j, hj, rfl, rfl, HB⟩ := hrel
      have hj0 : (0 : Int) ≤ (j : Int) := by omega
      rcases Nat.lt_or_ge j (n + 1) with h1 | h1
      · have hjn : (j : Int) ≤ (n : Int) := by omega
        have HJ := Hid.mk' (fun W => HI.out (n - j) W (by omega))
        have hb : cntS (fun i => cntT k (n - i)) (j + 1) ≤ 10000000 := by have h2 := cntS_le (fun i => cntT k (n - i)) (show j + 1 ≤ n + 1 from h1); have h3 := HC.out; rw [HE.out] at h3; omega
        have hs : cntS (fun i => cntT k (n - i)) (j + 1) = cntS (fun i => cntT k (n - i)) j + cntT k (n - j) := rfl
        have HSX := Hid.mk' hs
        rw [hs] at hb
        rw [show ((n - j : Nat) : Int) = (n : Int) - (j : Int) by omega] at HJ
        clear hs
        obtain ⟨x, hx⟩ : ∃ x, x = cntS (fun i => cntT k (n - i)) j := ⟨_, rfl⟩
        obtain ⟨y, hy⟩ : ∃ y, y = cntT k (n - j) := ⟨_, rfl⟩
        rw [← hx, ← hy] at HSX hb
        rw [← hx]
        rw [← hy] at HJ
        clear hx hy
        have hb2 : (x : Int) + (y : Int) ≤ 10000000 := by omega
        have hx0 : (0 : Int) ≤ (x : Int) := by omega
        have hy0 : (0 : Int) ≤ (y : Int) := by omega
        go_wp2_with fail
        refine (HJ.out _).mono ?_
        rintro e w4 ⟨rfl, hb4⟩
        have HB4 := Hid.mk' (below_chain HB.out hb4)
        clear hb4
        go_wp2_with fail
        refine ⟨⟨j + 1, h1, by go_num, ?_, HB4.out⟩, by simp [intOf]; omega⟩
        rw [HSX.out]
        go_num
      · obtain rfl : j = n + 1 := by omega
        have hjn : ¬ (((n + 1 : Nat) : Int) ≤ (n : Int)) := by omega
        go_wp2_with fail
        go_ret
        exact ⟨by rw [HE.out]; rfl, HB.out⟩

set_option maxRecDepth 100000 in
set_option maxHeartbeats 2000000 in
theorem TypesOf_any : ∀ (k n : Nat) (w : World), k < 6 → n < 21 → Calls Tryd.prog 14 #[.int .i64 n, .int .i64 ((k : Int) + 1)] w fun e w' => ∃ v, e = .returned v ∧ (∃ vs, LolOwn w.heap.size w.heap.size w' v (typT k n) vs) ∧ Below w.heap.size w w'
  | 0, n, w, _, hn => by
    go_enter Tryd.func14, Tryd.ntmps14
    go_wp2_with fail
    go_ret
    refine ⟨_, rfl, ⟨[.slice (some ⟨w.heap.size, 0, none⟩) 1 1], own_built (w := (w.alloc _).alloc _) (base := w.heap.size) (g := w.heap.size + 1) (t := 35) (cs := #[.slice (some ⟨w.heap.size, 0, none⟩) 1 1]) (by omega) (two_heap1 _ _ _) (by simp), fun i r hr => ?_⟩, ((Below.refl _ _).alloc (Nat.le_refl _) _).alloc (by simp) _⟩
    obtain ⟨rfl, rfl⟩ : i = 0 ∧ r = [(n : Int)] := by
      rcases i with _ | i
      · exact ⟨rfl, by simpa [typT] using hr.symm⟩
      · simp [typT] at hr
    exact ⟨_, rfl, own_built (w := (w.alloc _).alloc _) (base := w.heap.size) (g := w.heap.size) (t := 3) (cs := #[.int .i64 (n : Int)]) (Nat.le_refl _) (two_heap0 _ _ _) (by simp)⟩
  | k + 1, n, w, hk, hn => by
    obtain ⟨i0, hi, hz0, hz1, hz2⟩ := info_parts Tryd.infoInts
    have HINF : Hid (Tryd.prog.info? 35 = some i0 ∧ i0.zero = some (.slice none 0 0) ∧ i0.size = 1 ∧ i0.bytes = 24) := ⟨hi, hz0, hz1, hz2⟩
    clear hi hz0 hz1 hz2
    obtain ⟨i1, hi, hz0, hz1, hz2⟩ := info_parts Tryd.infoInt
    have HINI : Hid (Tryd.prog.info? 3 = some i1 ∧ i1.zero = some (.int .i64 0) ∧ i1.size = 1 ∧ i1.bytes = 8) := ⟨hi, hz0, hz1, hz2⟩
    clear hi hz0 hz1 hz2
    have HI := Hid.mk' (fun (m : Nat) (W : World) (hm : m < 21) => TypesOf_any k m W (by omega) hm)
    have HC := Hid.mk' (cntT_small hk hn)
    have HE : Hid (cntT (k + 1) n = cntS (fun i => cntT k (n - i)) (n + 1)) := rfl
    have HW := Hid.mk' (fun (m : Nat) r hr => typT_width k m r hr)
    have hn0 : (0 : Int) ≤ (n : Int) := by omega
    have hn6 : (n : Int) < 21 := by omega
    rw [show (((k + 1 : Nat) : Int) + 1) = (k : Int) + 1 + 1 by omega]
    obtain ⟨K, hK⟩ : ∃ K : Int, K = (k : Int) + 1 + 1 := ⟨_, rfl⟩
    rw [← hK]
    rw [show (k : Int) + 1 = K - 1 by omega] at HI
    have hK2 : 2 ≤ K := by omega
    have hK6 : K ≤ 6 := by omega
    have hKb : (K == 1) = false := by simp; omega
    clear hK
    go_enter Tryd.func14, Tryd.ntmps14
    go_wp2_with fail
    go_loopw [5, 6] (fun u i wr => ∃ (j : Nat) (vs : List Value), j ≤ n + 1 ∧ i = .int .i64 j ∧ Hid (LolOwn w.heap.size w.heap.size wr u (typS (fun i => typT k (n - i)) j) vs) ∧ Hid (Below w.heap.size w wr)) (fun _ i _ => n + 1 - (intOf i).toNat)
    case atStart => exact ⟨0, [], Nat.zero_le _, rfl, LolOwn.nil _ _ _, Below.refl _ _⟩
    case round =>
      obtain ⟨j, vs, hj, rfl, HO, HB⟩ := hrel
      have hj0 : (0 : Int) ≤ (j : Int) := by omega
      rcases Nat.lt_or_ge j (n + 1) with h1 | h1
      · have hjn : (j : Int) ≤ (n : Int) := by omega
        have HJ := Hid.mk' (fun W => HI.out (n - j) W (by omega))
        have HB2 : Hid ((typS (fun i => typT k (n - i)) j).length + (typT k (n - j)).length ≤ 10000000) := by
          have h2 : (typS (fun i => typT k (n - i)) (j + 1)).length ≤ 10000000 := by
            rw [typS_length]
            have h3 := cntS_le (fun i => cntT k (n - i)) (show j + 1 ≤ n + 1 from h1)
            have h4 := HC.out
            rw [HE.out] at h4
            rw [cntS_congr (g := fun i => cntT k (n - i)) (fun i _ => typT_length k (n - i))]
            omega
          show _ ≤ _
          simpa [typS] using h2
        rw [show ((n - j : Nat) : Int) = (n : Int) - (j : Int) by omega] at HJ
        have HWJ := Hid.mk' (HW.out (n - j))
        have HFIN : Hid (typS (fun i => typT k (n - i)) (j + 1) = typS (fun i => typT k (n - i)) j ++ (typT k (n - j)).map (fun r => (j : Int) :: r)) := rfl
        obtain ⟨L0, hL0⟩ : ∃ L0, L0 = typS (fun i => typT k (n - i)) j := ⟨_, rfl⟩
        obtain ⟨l, hl⟩ : ∃ l, l = typT k (n - j) := ⟨_, rfl⟩
        rw [← hL0] at HO HB2 HFIN
        rw [← hl] at HJ HWJ HB2 HFIN
        clear hL0 hl
        obtain ⟨au, cu, rfl⟩ := HO.out.form
        go_wp2_with fail
        refine (HJ.out _).mono ?_
        rintro e w4 ⟨v4, rfl, ⟨vs4, hl4⟩, hb4⟩
        have HOW : Hid (∀ g, (Value.slice au L0.length cu).ownBlock = some g → g < wr.heap.size ∨ w4.heap.size ≤ g) := fun g hg => Or.inl (by
          rcases HO.out.1.2 with ⟨e, _⟩ | ⟨g', cap', cur', e, _, hh, _⟩
          · rw [e] at hg; cases hg
          · rw [e] at hg
            obtain rfl : g' = g := by simpa [Value.ownBlock] using hg
            exact heap_lt hh)
        have HZ4 := Hid.mk' hb4.size
        have HO4 := Hid.mk' (HO.out.later hb4)
        have HB4 := Hid.mk' (below_chain HB.out hb4)
        have HL4 := Hid.mk' hl4
        obtain ⟨a4, c4, rfl⟩ := hl4.form
        clear hl4
        generalize wr.heap.size = B3 at *
        clear hb4 HO HB HJ
        go_wp2_with fail
        go_loopw [5, 8, 9] (fun u x _ wr => ∃ (m : Nat) (vs : List Value), m ≤ l.length ∧ x = .int .i64 m ∧ Hid (LolOwn w.heap.size w.heap.size wr u (L0 ++ (l.take m).map (fun r => (j : Int) :: r)) vs) ∧ Hid (∀ k, B3 ≤ k → k < w4.heap.size → wr.heap[k]? = w4.heap[k]?) ∧ Hid (∀ g, u.ownBlock = some g → g < B3 ∨ w4.heap.size ≤ g) ∧ Hid (w4.heap.size ≤ wr.heap.size) ∧ Hid (Below w.heap.size w wr)) (fun _ x _ _ => l.length - (intOf x).toNat)
        case atStart => exact ⟨0, vs, Nat.zero_le _, rfl, by show LolOwn _ _ _ _ _ _; simpa using HO4.out, fun k _ _ => rfl, HOW, Nat.le_refl _, HB4.out⟩
        case round =>
          clear HO4 HOW HB4
          obtain ⟨m, vs, hm, rfl, HO, HK, HOW, HZ, HB⟩ := hrel
          rcases Nat.lt_or_ge m l.length with h2 | h2
          · have hmI : (m : Int) < (l.length : Int) := by omega
            have hm0 : (0 : Int) ≤ (m : Int) := by omega
            have hll : (l.length : Int) ≤ 10000000 := by have := HB2.out; omega
            obtain ⟨_, _, e1, g1⟩ := (HL4.out.keep HK.out).lol
            obtain ⟨rfl, rfl⟩ : a4 = _ ∧ c4 = _ := by simpa using e1
            obtain ⟨b, o, x, rfl, c1, n1⟩ := g1 m _ (List.getElem?_eq_getElem h2)
            have HTK : Hid (l.take (m + 1) = l.take m ++ [l[m]]) := by show _ = _; rw [List.take_add_one, List.getElem?_eq_getElem h2]; rfl
            have hw := HWJ.out _ (List.getElem_mem h2)
            generalize l[m] = r at *
            rcases n1 with ⟨_, _, _, h0⟩ | ⟨b', o', q', rfl, hr0, hrow⟩
            · omega
            · have HR := Hid.mk' (fun (W : World) (hb : Below wr.heap.size wr W) => RowAt.later hrow hb)
              obtain ⟨au, cu, hu⟩ := HO.out.form
              subst hu
              have HLN : Hid ((L0 ++ (l.take m).map (fun r => (j : Int) :: r)).length ≤ 10000000) := by
                show _ ≤ _
                have := HB2.out
                simp only [List.length_append, List.length_map, List.length_take]
                omega
              obtain ⟨L, hL⟩ : ∃ L, L = L0 ++ (l.take m).map (fun r => (j : Int) :: r) := ⟨_, rfl⟩
              rw [← hL] at HO HLN ⊢
              have HLE := Hid.mk' hL
              clear hL e1 g1 hrow
              have hwr : r.length ≤ 6 := by omega
              clear hw
              have HBR := Hid.mk' HB.out.size
              have HCL : Hid ((cellL r).length = r.length * 1) := by show _ = _; rw [cellL_length, Nat.mul_one]
              have HCI : Hid (∀ u, u ∈ cellL r → u.oneCell' = true) := fun u hu => by rw [← numCells_list] at hu; obtain ⟨x, rfl⟩ := numCells_ints _ _ u hu; rfl
              go_wp2_with (at_builtin; go_must (first
                | (have hz6 := HR6; clear hz6; refine wpList_append_lies _ rfl _ _ _ rfl w.heap.size 35 i0 _ 1 24 Tryd.underlying28 HINF.out.1 HINF.out.2.1 HINF.out.2.2.1 HINF.out.2.2.2 rfl (by omega) (.slice au L.length cu) _ _ rfl (HO6.out.1.alloc _) ⟨w6.heap.size, 0, none⟩ 1 1 [.slice (some ⟨g6, 0, none⟩) (1 + r.length) cap6] rfl rfl (one_new _ _ _) (by simp [Value.oneCell']) (by omega) (by have := HLN.out; unfold maxLen; omega) (by have := HLN.out; omega) (by have := HZ6.out; simp; omega) _ rfl ?_; intro g7 cap7 w7 hown7 hgrow7 hat7 hlt7; have HO7 := Hid.mk' hown7; have HG7 := Hid.mk' hgrow7; have HA7 := Hid.mk' hat7; clear hown7 hgrow7 hat7)
                | (have hz5 := HR5; clear hz5; refine wpList_append_lies _ rfl _ _ _ rfl wr.heap.size 3 i1 _ 1 8 Tryd.underlying35 HINI.out.1 HINI.out.2.1 HINI.out.2.2.1 HINI.out.2.2.2 rfl (by omega) (.slice (some ⟨g5, 0, none⟩) 1 cap5) _ _ rfl HR5.out ⟨b', o', none⟩ r.length q' (cellL r) rfl HCL.out (fun j u hu => numCells_news (HR.out _ HB5.out) j u (by rw [numCells_list]; exact hu)) HCI.out hr0 (by unfold maxLen; omega) (by omega) (by have := HB5.out.size; omega) _ rfl ?_; intro g6 cap6 w6 hown6 hgrow6 hat6 hlt6; have HR6 := Hid.mk' hown6; have HB6 := Hid.mk' (HB5.out.grown hgrow6 HB5.out.size (fun k e => (HR5.out.lt k e).1)); have HZ6 := Hid.mk' (Nat.le_trans HBR.out HB6.out.size); have HO6 := Hid.mk' (HO.out.later HB6.out); clear hown6 hgrow6 hat6 hlt6)
                | (refine wpList_append_lies _ rfl _ _ _ rfl wr.heap.size 3 i1 _ 1 8 Tryd.underlying35 HINI.out.1 HINI.out.2.1 HINI.out.2.2.1 HINI.out.2.2.2 rfl (by omega) (.slice none 0 0) 0 [] rfl ⟨rfl, Or.inl ⟨rfl, rfl⟩⟩ ⟨wr.heap.size, 0, none⟩ 1 1 [.int .i64 (j : Int)] rfl rfl (one_new _ _ _) (by simp [Value.oneCell']) (by omega) (by unfold maxLen; omega) (by omega) (by simp) _ rfl ?_; intro g5 cap5 w5 hown5 hgrow5 hat5 hlt5; have HR5 : Hid (w5.ownsRow wr.heap.size 3 1 (.slice (some ⟨g5, 0, none⟩) 1 cap5) 1 [.int .i64 (j : Int)]) := hown5; have HB5 := Hid.mk' (((Below.refl wr.heap.size wr).alloc (Nat.le_refl _) _).grown hgrow5 (by simp) (fun k e => by cases e)); have c5 : w5.cell? ⟨b, o + m, none⟩ = some (.slice (some ⟨b', o', none⟩) r.length q') := (HB5.out.cell (cell_lt c1)).trans c1; clear hown5 hgrow5 hat5 hlt5)))
              have HW7 : Hid (∀ k, B3 ≤ k → k < w4.heap.size → w7.heap[k]? = w4.heap[k]?) := fun k e1 e2 => by
                have e3 : k < w6.heap.size := Nat.lt_of_lt_of_le e2 (Nat.le_trans HZ.out HB6.out.size)
                rw [HG7.out.block k (Nat.lt_of_lt_of_le e3 (by simp)) (fun e => ?_)]
                · have e4 : (w6.alloc (.cells #[.slice (some ⟨g6, 0, none⟩) (1 + r.length) cap6] 35)).heap[k]? = w6.heap[k]? := by
                    show (w6.heap.push _)[k]? = _
                    rw [Array.getElem?_push, if_neg (by omega)]
                  rw [e4, HB6.out.block k (Nat.lt_of_lt_of_le e2 HZ.out), HK.out k e1 e2]
                · have := HOW.out k (by rw [← HLE.out]; exact e.symm)
                  omega
              refine ⟨⟨m + 1, vs ++ [.slice (some ⟨g6, 0, none⟩) (1 + r.length) cap6], h2, by go_num, ?_, HW7, fun g hg => ?_, ?_, ?_⟩, by simp [intOf]; omega⟩
              · show LolOwn _ _ _ _ _ _
                have e5 : L0 ++ (l.take (m + 1)).map (fun r => (j : Int) :: r) = L ++ [(j : Int) :: r] := by rw [HTK.out, HLE.out]; simp
                rw [e5]
                refine (HO6.out.later ((Below.refl _ _).alloc (Nat.le_refl _) _)).push (u := .slice (some ⟨g6, 0, none⟩) (1 + r.length) cap6) ?_ HG7.out HO7.out
                have e6 := own_past (HR6.out.mono HBR.out) ((Below.refl w6.heap.size w6).alloc (Nat.le_refl _) (.cells #[.slice (some ⟨g6, 0, none⟩) (1 + r.length) cap6] 35))
                rw [List.length_cons, Nat.add_comm r.length 1]
                exact e6
              · obtain rfl : g7 = g := by simpa [Value.ownBlock] using hg
                rcases HA7.out with e | e
                · exact HOW.out g7 (by rw [← HLE.out]; exact e)
                · refine Or.inr ?_
                  rw [e]
                  exact Nat.le_trans HZ.out (Nat.le_trans HB6.out.size (by simp))
              · exact Nat.le_trans HZ.out (Nat.le_trans HB6.out.size (Nat.le_trans (by simp) HG7.out.size))
              · exact below_chain HB.out HB6.out |>.trans (((Below.refl w.heap.size w6).alloc (Nat.le_trans HBR.out HB6.out.size) _).grown HG7.out (by have := HZ6.out; simp; omega) (fun k e => ((HO6.out.1.alloc (.cells #[] 3)).lt k e).1))
          · obtain rfl : m = l.length := by omega
            have hmI : ¬ ((l.length : Int) < (l.length : Int)) := by omega
            go_wp2_with fail
            refine ⟨⟨j + 1, vs, h1, by go_num, ?_, HB.out⟩, by simp [intOf]; omega⟩
            show LolOwn _ _ _ _ _ _
            rw [HFIN.out]
            simpa using HO.out
      · obtain rfl : j = n + 1 := by omega
        have hjn : ¬ (((n + 1 : Nat) : Int) ≤ (n : Int)) := by omega
        obtain ⟨au, cu, rfl⟩ := HO.out.form
        go_wp2_with fail
        go_ret
        exact ⟨_, rfl, ⟨_, HO.out⟩, HB.out⟩

end Go.Proofs.YteicjedmingplaaDoor

/- coded of an error by its number. -/
namespace Go.Proofs.YteicjedmingplaaDoor
open Go.RowKit

theorem coded_errV (a : Nat → Addr) (c : Nat) (hc : c ≤ 8) (w : World) (h : Errs w a) :
    Calls Tryd.prog 11 #[errV a c, .int .i64 (c : Int)] w fun e w' => e = .returned (.bool true) ∧ Below w.heap.size w w' := by
  by_cases h0 : c = 0
  · subst h0
    rw [errV_zero]
    refine (coded_nil 0 w).mono ?_
    rintro e w' ⟨rfl, rfl⟩
    exact ⟨rfl, Below.refl _ _⟩
  · rw [errV_pos a h0]
    have h1 := coded_err a (c - 1) (by omega) (c : Int) w h
    have e : decide ((c : Int) = ((c - 1 : Nat) : Int) + 1) = true := decide_eq_true (by omega)
    rw [e] at h1
    exact h1
end Go.Proofs.YteicjedmingplaaDoor

/- The law TypesAll. -/
namespace Go.Proofs.YteicjedmingplaaDoor
open Go.RowKit

set_option maxRecDepth 100000 in
set_option maxHeartbeats 1000000 in
theorem All_bad (n k : Int) (w : World) {a : Nat → Addr} (he : Errs w a) (h : n < 0 ∨ 20 < n ∨ k < 1 ∨ 6 < k) : Calls Tryd.prog 10 #[.int .i64 n, .int .i64 k] w fun e w' => e = .returned (.tuple #[.slice none 0 0, .iface 139 (.pointer (some (a 1)))]) ∧ Below w.heap.size w w' := by
  have HC := Hid.mk' (fun W (hb : Below w.heap.size w W) => Count_bad n k W (he.below hb) h)
  clear he h
  have HB0 : Hid (Below w.heap.size w (w.alloc (.cells #[.int .i64 k] 3))) := (Below.refl _ _).alloc (Nat.le_refl _) _
  have hc0 : ∀ W, Below (w.alloc (.cells #[.int .i64 k] 3)).heap.size (w.alloc (.cells #[.int .i64 k] 3)) W → W.cell? ⟨w.heap.size, 0, none⟩ = some (.int .i64 k) := fun W hb => by
    rw [hb.cell (by simp), World.cell?_alloc_at _ _ _ _ rfl]; rfl
  clear hc0
  go_enter Tryd.func10, Tryd.ntmps10
  go_wp2_with fail
  refine (HC.out _ HB0.out).mono ?_
  rintro e w1 ⟨rfl, hb1⟩
  have HB1 := Hid.mk' (below_chain HB0.out hb1)
  clear hb1 HB0
  go_wp2_with fail
  go_ret2
  exact ⟨rfl, HB1.out⟩
set_option maxRecDepth 100000 in
set_option maxHeartbeats 1000000 in
theorem All_many (n k : Nat) (w : World) {a : Nat → Addr} (he : Errs w a) (hn : n < 21) (hk : k < 6) (hc : 4000 < cntT k n) : Calls Tryd.prog 10 #[.int .i64 n, .int .i64 ((k : Int) + 1)] w fun e w' => e = .returned (.tuple #[.slice none 0 0, .iface 139 (.pointer (some (a 1)))]) ∧ Below w.heap.size w w' := by
  have HC := Hid.mk' (fun W => Count_ok n k W hn hk)
  have hcI : 4000 < (cntT k n : Int) := by omega
  generalize cntT k n = c at *
  obtain ⟨K, hK⟩ : ∃ K : Int, K = (k : Int) + 1 := ⟨_, rfl⟩
  rw [← hK] at HC ⊢
  clear hK
  have HB0 : Hid (Below w.heap.size w (w.alloc (.cells #[.int .i64 K] 3))) := (Below.refl _ _).alloc (Nat.le_refl _) _
  have c1 := (he.below HB0.out).c1
  clear he
  go_enter Tryd.func10, Tryd.ntmps10
  go_wp2_with fail
  refine (HC.out _).mono ?_
  rintro e w1 ⟨rfl, hw1⟩
  rw [hw1]
  clear hw1
  go_wp2_with fail
  go_region
  all_goals
    go_wp2_with fail
    go_ret2
    exact ⟨rfl, HB0.out.drew⟩
theorem four_lol (w : World) (t u : TypeId) : LolAt ((((w.alloc (.cells #[.int .i64 0, .int .i64 2] t)).alloc (.cells #[.int .i64 1, .int .i64 1] t)).alloc (.cells #[.int .i64 2, .int .i64 0] t)).alloc (.cells #[.slice (some ⟨w.heap.size, 0, none⟩) 2 2, .slice (some ⟨w.heap.size + 1, 0, none⟩) 2 2, .slice (some ⟨w.heap.size + 1 + 1, 0, none⟩) 2 2] u)) (.slice (some ⟨w.heap.size + 1 + 1 + 1, 0, none⟩) 3 3) (typT 1 2) := by
  have row : ∀ (W W' : World) (x y : Int), Below (W.alloc (.cells #[.int .i64 x, .int .i64 y] t)).heap.size (W.alloc (.cells #[.int .i64 x, .int .i64 y] t)) W' → NumsAt W' (.slice (some ⟨W.heap.size, 0, none⟩) 2 2) 2 (atF [x, y]) := fun W W' x y hb => by
    refine Or.inr ⟨_, _, _, rfl, by decide, fun j hj => ?_⟩
    rw [hb.cell (by simp), World.cell?_alloc_at _ _ _ _ rfl]
    rcases (show j = 0 ∨ j = 1 by omega) with rfl | rfl <;> rfl
  have al : ∀ (W : World) (X : Obj), Below W.heap.size W (W.alloc X) := fun W X => (Below.refl _ _).alloc (Nat.le_refl _) _
  have s1 : ∀ (W : World) (X : Obj), (W.alloc X).heap.size = W.heap.size + 1 := fun W X => by simp
  refine ⟨_, _, rfl, fun i r hr => ?_⟩
  have hL : typT 1 2 = [[0, 2], [1, 1], [2, 0]] := rfl
  rw [hL] at hr
  have r0 := row w _ 0 2 (below_chain (al _ (.cells #[.int .i64 1, .int .i64 1] t)) (below_chain (al _ (.cells #[.int .i64 2, .int .i64 0] t)) (al _ (.cells #[.slice (some ⟨w.heap.size, 0, none⟩) 2 2, .slice (some ⟨w.heap.size + 1, 0, none⟩) 2 2, .slice (some ⟨w.heap.size + 1 + 1, 0, none⟩) 2 2] u))))
  have r1 := row (w.alloc (.cells #[.int .i64 0, .int .i64 2] t)) _ 1 1 (below_chain (al _ (.cells #[.int .i64 2, .int .i64 0] t)) (al _ (.cells #[.slice (some ⟨w.heap.size, 0, none⟩) 2 2, .slice (some ⟨w.heap.size + 1, 0, none⟩) 2 2, .slice (some ⟨w.heap.size + 1 + 1, 0, none⟩) 2 2] u)))
  have r2 := row ((w.alloc (.cells #[.int .i64 0, .int .i64 2] t)).alloc (.cells #[.int .i64 1, .int .i64 1] t)) _ 2 0 (al _ (.cells #[.slice (some ⟨w.heap.size, 0, none⟩) 2 2, .slice (some ⟨w.heap.size + 1, 0, none⟩) 2 2, .slice (some ⟨w.heap.size + 1 + 1, 0, none⟩) 2 2] u))
  rw [s1] at r1
  rw [s1, s1] at r2
  have c : ∀ (W : World) (x y z : Value) (j : Nat), (W.alloc (.cells #[x, y, z] u)).cell? ⟨W.heap.size, 0 + j, none⟩ = #[x, y, z][j]? := fun W x y z j => by rw [World.cell?_alloc_at _ _ _ _ rfl, Nat.zero_add]
  have e3 : w.heap.size + 1 + 1 + 1 = (((w.alloc (.cells #[.int .i64 0, .int .i64 2] t)).alloc (.cells #[.int .i64 1, .int .i64 1] t)).alloc (.cells #[.int .i64 2, .int .i64 0] t)).heap.size := by rw [s1, s1, s1]
  rcases i with _ | _ | _ | i
  · obtain rfl : [0, 2] = r := by simpa using hr
    exact ⟨_, 0, _, rfl, by rw [e3, c]; rfl, r0⟩
  · obtain rfl : [1, 1] = r := by simpa using hr
    exact ⟨_, 0, _, rfl, by rw [e3, c]; rfl, r1⟩
  · obtain rfl : [2, 0] = r := by simpa using hr
    exact ⟨_, 0, _, rfl, by rw [e3, c]; rfl, r2⟩
  · simp at hr
set_option maxRecDepth 100000 in
set_option maxHeartbeats 2000000 in
theorem pair_any (w : World) : Calls Tryd.prog 7 #[] w fun e w' => e = .returned (.bool true) ∧ Below w.heap.size w w' := by
  have hP := All_ok 2 1 w (by decide) (by decide) (by decide)
  rw [show (((2 : Nat) : Int)) = 2 from rfl, show (((1 : Nat) : Int) + 1) = 2 from rfl] at hP
  go_enter Tryd.func7, Tryd.ntmps7
  go_wp2_with fail
  refine hP.mono ?_
  clear hP
  rintro e w1 ⟨v, rfl, hl, hb⟩
  have HL := Hid.mk' hl
  have HB := Hid.mk' hb
  obtain ⟨ad, cap, rfl, -⟩ := hl
  clear hb
  go_wp2_with fail
  have HB4 : Hid (Below w1.heap.size w1 ((((w1.alloc (.cells #[.int .i64 0, .int .i64 2] 3)).alloc (.cells #[.int .i64 1, .int .i64 1] 3)).alloc (.cells #[.int .i64 2, .int .i64 0] 3)).alloc (.cells #[.slice (some ⟨w1.heap.size, 0, none⟩) 2 2, .slice (some ⟨w1.heap.size + 1, 0, none⟩) 2 2, .slice (some ⟨w1.heap.size + 1 + 1, 0, none⟩) 2 2] 35))) := ((((Below.refl _ _).alloc (Nat.le_refl _) _).alloc (by simp) _).alloc (by simp; omega) _).alloc (by simp; omega) _
  refine (SameLists_any _ _ (typT 1 2) _ (HL.out.later HB4.out) (four_lol w1 3 35) (by decide) (fun r hr => by rw [typT_width _ _ r hr]; decide)).mono ?_
  rintro e w5 ⟨rfl, hb5⟩
  have HB5 := Hid.mk' (below_chain HB.out (below_chain HB4.out hb5))
  clear hb5
  go_wp2_with fail
  go_ret
  exact ⟨rfl, HB5.out⟩
set_option maxRecDepth 100000 in
set_option maxHeartbeats 4000000 in
theorem TypesAll_all (a : Nat → Addr) (n k : Int) (w : World) (hE : Errs w a) :
    Calls Tryd.prog 3 #[.int .i64 n, .int .i64 k] w fun e w' => e = .returned (.bool true) ∧ Below w.heap.size w w' := by
  have HE := Hid.mk' (fun (W : World) (hb : Below w.heap.size w W) => hE.below hb)
  clear hE
  have HP := Hid.mk' (pair_any w)
  have HCD : Hid (∀ W, Below w.heap.size w W → Calls Tryd.prog 11 #[errV a 2, .int .i64 2] W fun e w' => e = .returned (.bool true) ∧ Below W.heap.size W w') := fun W hb => coded_errV a 2 (by decide) W (HE.out W hb)
  rw [errV_pos a (by decide)] at HCD
  by_cases hbad : n < 0 ∨ 20 < n ∨ k < 1 ∨ 6 < k
  · have HF := Hid.mk' (fun W => FewError_bad n k W hbad)
    have HC := Hid.mk' (fun W (hb : Below w.heap.size w W) => Count_bad n k W (HE.out W hb) hbad)
    have HA := Hid.mk' (fun W (hb : Below w.heap.size w W) => All_bad n k W (HE.out W hb) hbad)
    clear hbad
    go_enter Tryd.func3, Tryd.ntmps3
    go_wp2_with fail
    refine HP.out.mono ?_
    rintro e w1 ⟨rfl, hb1⟩
    have HB1 := Hid.mk' hb1
    clear hb1
    go_wp2_with fail
    refine (HF.out _).mono ?_
    rintro e w2 ⟨rfl, hw2⟩
    rw [hw2]
    clear hw2
    go_wp2_with fail
    refine (HC.out _ HB1.out).mono ?_
    rintro e w3 ⟨rfl, hb3⟩
    have HB3 := Hid.mk' (below_chain HB1.out hb3)
    clear hb3
    go_wp2_with fail
    refine (HA.out _ HB3.out).mono ?_
    rintro e w4 ⟨rfl, hb4⟩
    have HB4 := Hid.mk' (below_chain HB3.out hb4)
    clear hb4
    go_wp2_with fail
    refine (HCD.out _ HB4.out).mono ?_
    rintro e w5 ⟨rfl, hb5⟩
    have HB5 := Hid.mk' (below_chain HB4.out hb5)
    clear hb5
    go_wp2_with fail
    refine (HCD.out _ HB5.out).mono ?_
    rintro e w6 ⟨rfl, hb6⟩
    have HB6 := Hid.mk' (below_chain HB5.out hb6)
    clear hb6
    go_wp2_with fail
    go_ret
    exact ⟨rfl, HB6.out⟩
  · obtain ⟨m, j, hm, hj, hmn, hjk⟩ : ∃ m j : Nat, m < 21 ∧ j < 6 ∧ n = (m : Int) ∧ k = (j : Int) + 1 := ⟨n.toNat, (k - 1).toNat, by omega, by omega, by omega, by omega⟩
    have HF := Hid.mk' (fun W => FewError_ok n k W (by omega) (by omega) (by omega) (by omega))
    have HC := Hid.mk' (fun W => Count_ok m j W hm hj)
    have HO := Hid.mk' (fun W => CountOf_any j m W hj hm)
    have HT := Hid.mk' (fun W => TypesOf_any j m W hj hm)
    have HAM := Hid.mk' (fun W (hb : Below w.heap.size w W) (hc : 4000 < cntT j m) => All_many m j W (HE.out W hb) hm hj hc)
    have HAO := Hid.mk' (fun W (hc : cntT j m ≤ 4000) => All_ok m j W hm hj hc)
    have HSL := Hid.mk' (fun (v u : Value) (W : World) (h1 : LolAt W v (typT j m)) (h2 : LolAt W u (typT j m)) (hc : cntT j m ≤ 4000) => SameLists_any v u (typT j m) W h1 h2 (by rw [typT_length]; omega) (fun r hr => by rw [typT_width _ _ r hr]; omega))
    have HLN := Hid.mk' (typT_length j m)
    have hcb := cntT_small hj hm
    rw [← hmn, ← hjk] at HC HO HT HAM HAO
    clear hbad hmn hjk
    obtain ⟨c, hc⟩ : ∃ c, c = cntT j m := ⟨_, rfl⟩
    rw [← hc] at HC HO HAM HAO HSL HLN hcb
    have hc0 : (0 : Int) ≤ (c : Int) := by omega
    clear hc
    generalize typT j m = L at *
    go_enter Tryd.func3, Tryd.ntmps3
    go_wp2_with fail
    refine HP.out.mono ?_
    rintro e w1 ⟨rfl, hb1⟩
    have HB1 := Hid.mk' hb1
    clear hb1
    go_wp2_with fail
    refine (HF.out _).mono ?_
    rintro e w2 ⟨rfl, hw2⟩
    rw [hw2]
    clear hw2
    go_wp2_with fail
    refine (HC.out _).mono ?_
    rintro e w3 ⟨rfl, hw3⟩
    rw [hw3]
    clear hw3 w2 w3
    go_wp2_with fail
    by_cases h4 : 4000 < c
    · have h4I : (4000 : Int) < (c : Int) := by omega
      refine (HAM.out _ HB1.out h4).mono ?_
      rintro e w4 ⟨rfl, hb4⟩
      have HB4 := Hid.mk' (below_chain HB1.out hb4)
      clear hb4
      go_wp2_with fail
      refine (HO.out _).mono ?_
      rintro e w5 ⟨rfl, hb5⟩
      have HB5 := Hid.mk' (below_chain HB4.out hb5)
      clear hb5
      go_wp2_with fail
      refine (HCD.out _ HB5.out).mono ?_
      rintro e w6 ⟨rfl, hb6⟩
      have HB6 := Hid.mk' (below_chain HB5.out hb6)
      clear hb6
      go_wp2_with fail
      go_ret
      exact ⟨rfl, HB6.out⟩
    · have h4' : c ≤ 4000 := by omega
      have h4I : (c : Int) ≤ 4000 := by omega
      refine (HAO.out _ h4').mono ?_
      rintro e w4 ⟨v, rfl, hl4, hb4⟩
      have HL4 := Hid.mk' hl4
      have HB4 := Hid.mk' (below_chain HB1.out hb4)
      obtain ⟨ad, cap, rfl, -⟩ := hl4
      rw [HLN.out]
      rw [HLN.out] at HL4
      clear hb4 h4
      go_wp2_with fail
      refine (HO.out _).mono ?_
      rintro e w5 ⟨rfl, hb5⟩
      have HB5 := Hid.mk' (below_chain HB4.out hb5)
      have HL5 := Hid.mk' (HL4.out.later hb5)
      clear hb5 HL4
      by_cases h6 : 600 < c
      · have h6I : (600 : Int) < (c : Int) := by omega
        go_wp2_with fail
        go_ret
        exact ⟨rfl, HB5.out⟩
      · have h6I : (c : Int) ≤ 600 := by omega
        go_wp2_with fail
        refine (HT.out _).mono ?_
        rintro e w6 ⟨u, rfl, ⟨vs, hu⟩, hb6⟩
        have HB6 := Hid.mk' (below_chain HB5.out hb6)
        have HL6 := Hid.mk' (HL5.out.later hb6)
        have HU6 := Hid.mk' hu.lol
        obtain ⟨a6, c6, rfl⟩ := hu.form
        clear hu hb6 HL5
        go_wp2_with fail
        refine (HSL.out _ _ _ HL6.out HU6.out h4').mono ?_
        rintro e w7 ⟨rfl, hb7⟩
        have HB7 := Hid.mk' (below_chain HB6.out hb7)
        clear hb7
        go_wp2_with fail
        go_ret
        exact ⟨rfl, HB7.out⟩
end Go.Proofs.YteicjedmingplaaDoor

/- The law TypesSums. -/
namespace Go.Proofs.YteicjedmingplaaDoor
open Go.RowKit

theorem region_all {P : Program} {ops : Array Oper} {Q : Exit → Act → World → Prop} {S : World → Prop} {n id : Nat} {a : Act} {w : World} (hm : P.follows .mixedOrders = true) (hs : ops.size = n) (hS : S w.drew) (H : S w.drew → wpAnyH P .any ops Q S n (Array.replicate n false) a w.drew) : (Code.region id ops true).wp P Q a w := by
  refine wp_region_any hm ?_
  rw [hs]
  exact wpAny_of_held _ _ _ _ (H hS)
theorem few_types : ∀ n, n < 8 → ∀ k, k < 4 → chF (n + k) k ≤ 4000 := by decide +kernel
theorem atF_atN {k n : Nat} {r : List Int} (h : r ∈ typT k n) (i : Nat) : atF r i = (atN r i : Int) := (typT_sum k n r h).2 i
theorem typT_tyE {k n : Nat} {r : List Int} (hk : k < 6) (hn : n < 21) (h : r ∈ typT k n) : tyE (k + 1) (atF r) = 0 := by
  have h1 : sumN (atF r) (k + 1) = (n : Int) := by rw [sumU_sumN (fun i _ => atF_atN h i), (typT_sum k n r h).1]
  refine tyE_none (by omega) (by omega) ?_ (by rw [h1]; omega)
  cases hb : negB (atF r) (k + 1) with
  | false => rfl
  | true =>
    obtain ⟨i, _, hi⟩ := (negB_iff _ _).1 hb
    rw [atF_atN h i] at hi
    omega
set_option maxRecDepth 100000 in
set_option maxHeartbeats 8000000 in
theorem TypesSums_main (a : Nat → Addr) (b o c n k S : Nat) (y : Nat → Int) (q : Nat → Nat) (w : World) (hE : Errs w a) (hy : RowAt w b o (k + 1) y) (hk : k < 4) (hn : n < 8) (hw : weightsErr y (k + 1) = 0) (hq : ∀ i, i < k + 1 → y i = (q i : Int)) (hS : sumU q (k + 1) = S) (hS6 : S ≤ 60) :
    Calls Tryd.prog 6 #[.int .i64 (n : Int), .slice (some ⟨b, o, none⟩) (k + 1) c] w fun e w' => e = .returned (.bool true) ∧ Below w.heap.size w w' := by
  have hw2 := weightsErr_ok hw
  have hWS : sumN y (k + 1) = (S : Int) := by rw [sumU_sumN hq, hS]
  have hS0 : 0 < S := by have := hw2.2.pos; rw [hWS] at this; omega
  have hq6 : ∀ i, i < k + 1 → q i ≤ 60 := fun i hi => by
    have h1 : sumU q i + q i ≤ sumU q (k + 1) := sumU_le q (show i + 1 ≤ k + 1 from hi)
    omega
  have HP := Hid.mk' (pair_any w)
  have HWE : Hid (∀ W, Below w.heap.size w W → Calls Tryd.prog 20 #[.slice (some ⟨b, o, none⟩) (k + 1) c] W fun e w' => e = .returned (.int .i64 0) ∧ w' = W) := fun W hb => by
    have := WeightsError_any (.slice (some ⟨b, o, none⟩) (k + 1) c) (k + 1) y W (Or.inr ⟨b, o, c, rfl, by omega, hy.later hb⟩) (by omega)
    rw [hw] at this; exact this
  have HSM : Hid (∀ W, Below w.heap.size w W → Calls Tryd.prog 24 #[.slice (some ⟨b, o, none⟩) (k + 1) c] W fun e w' => e = .returned (.int .i64 (S : Int)) ∧ w' = W) := fun W hb => by
    have h1 := Sum_some b o c (k + 1) y W (hy.later hb) (fun j hj => by rw [sumU_sumN (fun i hi => hq i (by omega))]; have := sumU_le q hj; omega) (fun i hi => by rw [hq i hi]; have := hq6 i hi; omega) (by omega)
    rw [hWS] at h1
    exact h1
  have hcn : cntT k n ≤ 4000 := by rw [cntT_chF k (by omega) n (by omega)]; exact few_types n hn k hk
  have HAL := Hid.mk' (fun W => All_ok n k W (by omega) (by omega) hcn)
  have HIM := Hid.mk' (fun (W : World) (hb : Below w.heap.size w W) => ints_any (.slice (some ⟨b, o, none⟩) (k + 1) c) (k + 1) y W (Or.inr ⟨b, o, c, rfl, by omega, hy.later hb⟩) (by omega))
  have hDs : S ^ n ≤ 2799360000000 := Nat.le_trans (Nat.pow_le_pow_left hS6 n) (Nat.le_trans (Nat.pow_le_pow_right (by decide) (show n ≤ 7 by omega)) (by decide +kernel))
  have hD0 : 0 < S ^ n := Nat.pow_pos hS0
  have hKs : (k + 1) ^ n ≤ 16384 := Nat.le_trans (Nat.pow_le_pow_left (show k + 1 ≤ 4 by omega) n) (Nat.le_trans (Nat.pow_le_pow_right (by decide) (show n ≤ 7 by omega)) (by decide +kernel))
  obtain ⟨fR, hfR⟩ : ∃ f : List Int → Nat, f = fun r => rowU (atN r) (k + 1) := ⟨_, rfl⟩
  obtain ⟨fN, hfN⟩ : ∃ f : List Int → Nat, f = fun r => rowU (atN r) (k + 1) * powU q (atN r) (k + 1) := ⟨_, rfl⟩
  have HTR : Hid (lsum fR (typT k n) = (k + 1) ^ n) := by show _ = _; rw [hfR]; exact sizes_all k n (by omega)
  have HTN : Hid (lsum fN (typT k n) = S ^ n) := by show _ = _; rw [hfN, multinom k n q (by omega), hS]
  have HSZ : Hid (∀ W v r, r ∈ typT k n → Below w.heap.size w W → NumsAt W v (k + 1) (atF r) → Calls Tryd.prog 16 #[v] W fun e w' => e = .returned (.tuple #[.int .i64 (fR r : Nat), .nilIface]) ∧ w' = W) := fun W v r hr hb hv => by
    rw [hfR]
    exact Size_ok a v (k + 1) (atF r) (atN r) W (hE.below hb) hv (typT_tyE (by omega) (by omega) hr) (fun i _ => atF_atN hr i)
  have HCN : Hid (∀ r, r ∈ typT k n → fN r ≤ S ^ n → ∃ p q' : Nat, p = fN r / Nat.gcd (fN r) (S ^ n) ∧ q' = S ^ n / Nat.gcd (fN r) (S ^ n) ∧ p ≤ 4611686018427387904 ∧ q' ≤ 4611686018427387904 ∧ ∀ W v u, Below w.heap.size w W → NumsAt W v (k + 1) (atF r) → NumsAt W u (k + 1) y → Calls Tryd.prog 23 #[v, u] W fun e w' => e = .returned (.tuple #[.agg #[.int .i64 (p : Int), .int .i64 (q' : Int)], .nilIface]) ∧ Below W.heap.size W w') := fun r hr hle => by
    have q1 : fN r / Nat.gcd (fN r) (S ^ n) ≤ fN r := Nat.div_le_self _ _
    have q2 : S ^ n / Nat.gcd (fN r) (S ^ n) ≤ S ^ n := Nat.div_le_self _ _
    refine ⟨_, _, rfl, rfl, by omega, by omega, fun W v u hb hv hu => ?_⟩
    rcases hv with ⟨_, _, _, hx⟩ | ⟨b1, o1, k1, rfl, _, r1⟩
    · omega
    rcases hu with ⟨_, _, _, hx⟩ | ⟨b2, o2, k2, rfl, _, r2⟩
    · omega
    have hsu := (typT_sum k n r hr).1
    refine TyChance_ok a b1 o1 k1 b2 o2 k2 (k + 1) S (atF r) y (atN r) q _ _ .nilIface W (hE.below hb) r1 r2 (typT_tyE (by omega) (by omega) hr) (fun i _ => atF_atN hr i) hw hq hS ?_
    have e : powU q (atN r) (k + 1) * rowU (atN r) (k + 1) = fN r := by rw [hfN, Nat.mul_comm]
    rw [hsu, e]
    unfold toldV
    rw [if_pos ⟨by omega, by omega⟩]
  have HWD := Hid.mk' (fun r (hr : r ∈ typT k n) => typT_width k n r hr)
  have HLC := Hid.mk' (typT_length k n)
  have hcn4 := hcn
  clear hfR hfN hE hy hw hq hS hw2 hWS hq6 hcn
  generalize cntT k n = cl at *
  generalize typT k n = L at *
  obtain ⟨D, hD⟩ : ∃ D, D = S ^ n := ⟨_, rfl⟩
  rw [← hD] at HTN HCN hDs hD0
  have hD20 : D < 1000000 ^ 20 := Nat.lt_of_le_of_lt hDs (by decide)
  clear hD
  have hlr := lsum_take fR L
  have hln := lsum_take fN L
  rw [HTR.out] at hlr
  rw [HTN.out] at hln
  have HLR' := Hid.mk' hlr
  have HLN' := Hid.mk' hln
  clear hlr hln
  have hn0 : (0 : Int) ≤ (n : Int) := by omega
  have hn7 : (n : Int) ≤ 7 := by omega
  rw [show (k : Int) + 1 = ((k + 1 : Nat) : Int) by omega] at HAL
  have hm4n : k + 1 ≤ 4 := by omega
  generalize k + 1 = m at *
  have hm0 : (0 : Int) ≤ (m : Int) := by omega
  have hm4 : (m : Int) ≤ 4 := by omega
  clear hk
  have hSI : (S : Int) ≤ 60 := by omega
  have hSI0 : (0 : Int) ≤ (S : Int) := by omega
  have HQ0 : Hid (∀ W, Calls Tryd.prog 25 #[.int .i64 0, .int .i64 1] W fun e w' => ∃ r, e = .returned r ∧ RatioAt w' r (lowN 1 0) (lowD 1 0) ∧ Below W.heap.size W w') := fun W => RatioOf_any 0 1 W (by decide) (by decide) (by decide) (by decide)
  have HQ1 : Hid (∀ W, Calls Tryd.prog 25 #[.int .i64 1, .int .i64 1] W fun e w' => ∃ r, e = .returned r ∧ RatioAt w' r (lowN 1 1) (lowD 1 1) ∧ Below W.heap.size W w') := fun W => RatioOf_any 1 1 W (by decide) (by decide) (by decide) (by decide)
  have HZD : Hid (lowN D ((0 : Nat) : Int) = lowN 1 0 ∧ lowD D ((0 : Nat) : Int) = lowD 1 0) := low_whole (R := 0) hD0 (by simp)
  have HOD : Hid (lowN D ((D : Nat) : Int) = lowN 1 1 ∧ lowD D ((D : Nat) : Int) = lowD 1 1) := low_whole (R := 1) hD0 (by simp)
  go_enter Tryd.func6, Tryd.ntmps6
  go_wp2_with fail
  refine HP.out.mono ?_
  rintro e w1 ⟨rfl, hb1⟩
  have HB1 := Hid.mk' hb1
  clear hb1
  go_wp2_with fail
  refine (HWE.out _ HB1.out).mono ?_
  rintro e w2 ⟨rfl, hw2⟩
  rw [hw2]
  clear hw2 w2
  go_wp2_with fail
  refine (HSM.out _ HB1.out).mono ?_
  rintro e w2 ⟨rfl, hw2⟩
  rw [hw2]
  clear hw2 w2
  go_wp2_with fail
  refine (HAL.out _).mono ?_
  rintro e w3 ⟨v3, rfl, hl3, hb3⟩
  have HL3 := Hid.mk' hl3
  have HB3 := Hid.mk' (below_chain HB1.out hb3)
  obtain ⟨ad3, cap3, hv3, -⟩ := hl3
  subst hv3
  rw [HLC.out] at HL3 ⊢
  clear hb3 HAL
  go_wp2_with fail
  go_loop [9, 10] (fun s i => ∃ j : Nat, j ≤ n ∧ i = .int .i64 j ∧ s = .int .i64 ((m ^ j : Nat) : Int)) (fun _ i => n - (intOf i).toNat)
  case atStart => exact ⟨0, Nat.zero_le _, rfl, rfl⟩
  case round =>
    obtain ⟨j, hj, rfl, rfl⟩ := hrel
    have hj0 : (0 : Int) ≤ (j : Int) := by omega
    rcases Nat.lt_or_ge j n with h1 | h1
    · have hjn : (j : Int) < (n : Int) := by omega
      have HPS : Hid (m ^ (j + 1) = m ^ j * m) := Nat.pow_succ m j
      have hb : m ^ j * m ≤ 16384 := by
        rw [← HPS.out]
        exact Nat.le_trans (Nat.pow_le_pow_left hm4n (j + 1)) (Nat.le_trans (Nat.pow_le_pow_right (by decide) (show j + 1 ≤ 7 by omega)) (by decide +kernel))
      generalize m ^ j = x at *
      obtain ⟨p, hp⟩ : ∃ p, p = x * m := ⟨_, rfl⟩
      have hpI : (x : Int) * (m : Int) = (p : Int) := by rw [hp]; simp
      rw [← hp] at HPS hb
      have hpb : (p : Int) ≤ 16384 := by omega
      have hp0 : (0 : Int) ≤ (p : Int) := by omega
      clear hp
      go_wp2_with fail
      exact ⟨⟨j + 1, h1, by go_num, by rw [HPS.out]⟩, by simp [intOf]; omega⟩
    · obtain rfl : n = j := by omega
      have hjn : ¬ (n : Int) < (n : Int) := by omega
      go_wp2_with fail
      refine (HQ0.out _).mono ?_
      rintro e w4 ⟨r, rfl, hr, hb4⟩
      obtain ⟨s1, x1, l1, c1, x1', l1', c1', rfl⟩ := hr.sl
      have HR4 := Hid.mk' (RBox.fresh hr)
      have hcur := below_chain HB3.out hb4
      have HLT1 := Hid.mk' hcur.size
      have HB4 := Hid.mk' (hcur.alloc hcur.size (.cells #[.bool s1, .slice x1 l1 c1, .slice x1' l1' c1'] 47))
      have HL4 := Hid.mk' (HL3.out.later hb4)
      have HLB4 := Hid.mk' (new_below w4 (.cells #[.bool s1, .slice x1 l1 c1, .slice x1' l1' c1'] 47))
      clear hr hb4 hcur HL3
      go_wp2_with fail
      generalize w4.alloc (.cells #[.bool s1, .slice x1 l1 c1, .slice x1' l1' c1'] 47) = W4 at *
      rw [← HZD.out.1, ← HZD.out.2] at HR4
      rw [show ((m : Int) ^ n) = ((m ^ n : Nat) : Int) by simp]
      generalize m ^ n = M at *
      clear hj
      go_loopw [9, 12] (fun s i wr => ∃ (j : Nat) (s1 : Bool) (x1 x1' : Option Addr) (l1 c1 l1' c1' : Nat), j ≤ cl ∧ i = .int .i64 j ∧ s = .int .i64 ((M : Int) - (lsum fR (L.take j) : Nat)) ∧ Hid (RBox wr w4.heap.size s1 x1 l1 c1 x1' l1' c1' (lowN D ((lsum fN (L.take j) : Nat) : Int)) (lowD D ((lsum fN (L.take j) : Nat) : Int))) ∧ Hid (Below w4.heap.size w4 wr) ∧ Hid (Below w.heap.size w wr)) (fun _ i _ => cl - (intOf i).toNat)
      case atStart => exact ⟨0, s1, x1, x1', l1, c1, l1', c1', Nat.zero_le _, rfl, by rw [List.take_zero]; show _ = Value.int .i64 ((M : Int) - ((0 : Nat) : Int)); simp, by show RBox _ _ _ _ _ _ _ _ _ _ _; simpa [lsum] using HR4.out, HLB4.out, HB4.out⟩
      case round =>
        clear HR4 HLB4 HB4
        obtain ⟨wx, rfl⟩ : ∃ wx, wx = wr := ⟨_, rfl⟩
        obtain ⟨j, s1, x1, x1', l1, c1, l1', c1', hj, rfl, rfl, HR1, HLB, HB⟩ := hrel
        have hj0 : (0 : Int) ≤ (j : Int) := by omega
        rcases Nat.lt_or_ge j cl with h1 | h1
        · have hjI : (j : Int) < (cl : Int) := by omega
          have hclI : (cl : Int) ≤ 4000 := by omega
          have hjl : j < L.length := by rw [HLC.out]; exact h1
          obtain ⟨_, _, e1, g1⟩ := HL4.out.later HLB.out
          obtain ⟨rfl, rfl⟩ : ad3 = _ ∧ cap3 = _ := by
            have e2 : Value.slice ad3 cl cap3 = _ := e1
            rw [HLC.out] at e2
            simpa using e2
          obtain ⟨bl, ol, x, rfl, cx, nx⟩ := g1 j _ (List.getElem?_eq_getElem hjl)
          have hmem := List.getElem_mem hjl
          have HTK : Hid (L.take (j + 1) = L.take j ++ [L[j]]) := by show _ = _; rw [List.take_add_one, List.getElem?_eq_getElem hjl]; rfl
          have hwd := HWD.out _ hmem
          have hR1 := HLR'.out (j + 1)
          have hN1 := HLN'.out (j + 1)
          have hRL : Hid (lsum fR (L.take (j + 1)) = lsum fR (L.take j) + fR L[j]) := by show _ = _; rw [HTK.out, lsum_append]; simp [lsum]
          have hNL : Hid (lsum fN (L.take (j + 1)) = lsum fN (L.take j) + fN L[j]) := by show _ = _; rw [HTK.out, lsum_append]; simp [lsum]
          rw [hRL.out] at hR1
          rw [hNL.out] at hN1
          obtain ⟨p, r, hp, hr, hp1, hr1, hch⟩ := HCN.out _ hmem (by omega)
          have HCH := Hid.mk' hch
          have HOF := Hid.mk' (fun W => OfFrac_lw (fN L[j]) D p r W hD0 hp hr hp1 hr1)
          rw [hwd] at nx
          have HLR : Hid (∀ W, Below wx.heap.size wx W → NumsAt W x m (atF L[j])) := fun W hb => nx.later hb
          have HSZ2 := Hid.mk' (fun W v (hb : Below w.heap.size w W) (hv : NumsAt W v m (atF L[j])) => HSZ.out W v _ hmem hb hv)
          have HNS : Hid (fN L[j] < 1000000 ^ 20) := Nat.lt_of_le_of_lt (show fN L[j] ≤ D by omega) hD20
          obtain ⟨A, hA⟩ : ∃ A, A = lsum fN (L.take j) := ⟨_, rfl⟩
          obtain ⟨R, hRR⟩ : ∃ R, R = lsum fR (L.take j) := ⟨_, rfl⟩
          rw [← hA] at hNL HR1 hN1
          rw [← hRR] at hRL hR1 ⊢
          have HAS : Hid (A < 1000000 ^ 20) := Nat.lt_of_le_of_lt (show A ≤ D by omega) hD20
          clear hA hRR hp hr hch
          generalize L[j] = rj at *
          obtain ⟨z, hz⟩ : ∃ z, z = fR rj := ⟨_, rfl⟩
          rw [← hz] at hRL hR1 HSZ2
          obtain ⟨N, hN⟩ : ∃ N, N = fN rj := ⟨_, rfl⟩
          rw [← hN] at hNL hN1 HOF HNS
          clear hz hN hmem hwd e1 g1
          have HPL : Hid (∀ W u v, RatioAt W u (lowN D (A : Int)) (lowD D (A : Int)) → RatioAt W v (lowN D (N : Int)) (lowD D (N : Int)) → Calls Tryd.prog 26 #[u, v] W fun e w' => ∃ r, e = .returned r ∧ RatioAt w' r (lowN D ((A + N : Nat) : Int)) (lowD D ((A + N : Nat) : Int)) ∧ Below W.heap.size W w') := fun W u v hu hv => Plus_low D A N hD0 hD20 HAS.out HNS.out u v W hu hv
          obtain ⟨ax, qx, rfl⟩ := nx.form
          clear nx
          have HKS : Hid (∀ W, Below wx.heap.size wx W → W.cell? ⟨bl, ol + j, none⟩ = some (.slice ax m qx)) := fun W hb => by rw [hb.cell (cell_lt cx)]; exact cx
          have hMI : (M : Int) ≤ 16384 := by omega
          have hRI : (R : Int) + (z : Int) ≤ (M : Int) := by omega
          have hR0 : (0 : Int) ≤ (R : Int) := by omega
          have hz0 : (0 : Int) ≤ (z : Int) := by omega
          go_wp2_with fail
          refine (HSZ2.out _ _ HB.out (HLR.out _ (Below.refl _ _))).mono ?_
          rintro e w5 ⟨rfl, hw5⟩
          rw [hw5]
          clear hw5 w5 cx
          go_wp2_with fail
          go_cut [15, 16] from 74 to 98 (fun pv ev wz => ∃ B5 : Nat, pv = .pointer (some ⟨B5, 0, none⟩) ∧ ev = .nilIface ∧ Hid (FrAt wz B5 p r) ∧ Hid (Below wx.heap.size wx wz))
          case first =>
            have hcur : Below wx.heap.size wx wx.drew := (Below.refl _ _).drew
            refine region_all (n := 13) (S := fun W => W.cell? ⟨bl, ol + j, none⟩ = some (.slice ax m qx)) (by kernel_rfl) (by kernel_rfl) (HKS.out _ hcur) (fun hHeld => ?_)
            generalize wx.drew = wxd at *
            refine wpAnyH_take (i := 0) (v := ?v0s1) rfl (by kernel_rfl) (by kernel_rfl) (by kernel_rfl) (fun _ _ _ h => h) (Or.inl ⟨by rfl, ?hy0s1⟩) (by assumption) ?rest0s1
            case hy0s1 => (intro w hSw; (try dsimp only at hSw); go_simp <;> (try with_reducible rfl))
            simp only [Act.put]
            refine wpAnyH_take (i := 1) (v := ?v1s2) rfl (by kernel_rfl) (by kernel_rfl) (by kernel_rfl) (fun _ _ _ h => h) (Or.inl ⟨by rfl, ?hy1s2⟩) (by assumption) ?rest1s2
            case hy1s2 => (intro w hSw; (try dsimp only at hSw); go_simp <;> (try with_reducible rfl))
            simp only [Act.put]
            refine wpAnyH_take (i := 2) (v := ?v2s3) rfl (by kernel_rfl) (by kernel_rfl) (by kernel_rfl) (fun _ _ _ h => h) (Or.inl ⟨by rfl, ?hy2s3⟩) (by assumption) ?rest2s3
            case hy2s3 => (intro w hSw; (try dsimp only at hSw); go_simp <;> (try with_reducible rfl))
            simp only [Act.put]
            refine wpAnyH_take (i := 3) (v := ?v3s4) rfl (by kernel_rfl) (by kernel_rfl) (by kernel_rfl) (fun _ _ _ h => h) (Or.inl ⟨by rfl, ?hy3s4⟩) (by assumption) ?rest3s4
            case hy3s4 => (intro w hSw; (try dsimp only at hSw); go_simp <;> (try with_reducible rfl))
            simp only [Act.put]
            refine wpAnyH_take (i := 4) (v := ?v4s5) rfl (by kernel_rfl) (by kernel_rfl) (by kernel_rfl) (fun _ _ _ h => h) (Or.inl ⟨by rfl, ?hy4s5⟩) (by assumption) ?rest4s5
            case hy4s5 => (intro w hSw; (try dsimp only at hSw); go_simp <;> (try with_reducible rfl))
            simp only [Act.put]
            refine wpAnyH_ready (rs := [5, 10]) (by kernel_rfl) (by simp) ?_
            refine AllReadyH.cons (i := 5) (rs := [10]) rfl (fun K hK => ?_) ?_
            · go_simp
              refine (HIM.out _ (below_chain HB.out hcur)).mono ?_
              rintro e wq6 ⟨v4, rfl, hv4, hbq⟩
              have hcur := below_chain hcur hbq
              have HV4 := Hid.mk' hv4
              obtain ⟨x4, c4, hv4e⟩ := hv4.form
              subst hv4e
              clear hv4
              clear hbq
              go_wp2_with fail
              refine hK.out _ _ ?_ (fun hHeld => ?_)
              · exact HKS.out _ hcur
              clear hK K
              refine wpAnyH_ready (rs := [6, 10]) (by kernel_rfl) (by simp) ?_
              refine AllReadyH.cons (i := 6) (rs := [10]) rfl (fun K hK => ?_) ?_
              · go_simp
                refine (HCH.out _ _ _ (below_chain HB.out hcur) (HLR.out _ hcur) HV4.out).mono ?_
                rintro e wq7 ⟨rfl, hbq⟩
                have hcur := below_chain hcur hbq
                clear hbq
                go_wp2_with fail
                refine hK.out _ _ ?_ (fun hHeld => ?_)
                · exact HKS.out _ hcur
                clear hK K
                refine wpAnyH_take (i := 7) (v := ?v7s8) rfl (by kernel_rfl) (by kernel_rfl) (by kernel_rfl) (fun _ _ _ h => h) (Or.inl ⟨by rfl, ?hy7s8⟩) (by assumption) ?rest7s8
                case hy7s8 => (intro w hSw; (try dsimp only at hSw); go_simp <;> (try with_reducible rfl))
                simp only [Act.put]
                refine wpAnyH_take (i := 8) (v := ?v8s9) rfl (by kernel_rfl) (by kernel_rfl) (by kernel_rfl) (fun _ _ _ h => h) (Or.inl ⟨by rfl, ?hy8s9⟩) (by assumption) ?rest8s9
                case hy8s9 => (intro w hSw; (try dsimp only at hSw); go_simp <;> (try with_reducible rfl))
                simp only [Act.put]
                refine wpAnyH_take (i := 9) (v := ?v9s10) rfl (by kernel_rfl) (by kernel_rfl) (by kernel_rfl) (fun _ _ _ h => h) (Or.inl ⟨by rfl, ?hy9s10⟩) (by assumption) ?rest9s10
                case hy9s10 => (intro w hSw; (try dsimp only at hSw); go_simp <;> (try with_reducible rfl))
                simp only [Act.put]
                refine wpAnyH_ready (rs := [10]) (by kernel_rfl) (by simp) ?_
                refine AllReadyH.cons (i := 10) (rs := []) rfl (fun K hK => ?_) ?_
                · go_simp
                  have HBX := Hid.mk' (FrAt.fresh wq7 0 0)
                  have HNBX := Hid.mk' hcur.size
                  have hcur := hcur.alloc hcur.size (.cells #[.int .i64 0, .int .i64 0] 40)
                  refine hK.out _ _ ?_ (fun hHeld => ?_)
                  · exact HKS.out _ hcur
                  clear hK K
                  generalize wq7.alloc (.cells #[.int .i64 0, .int .i64 0] 40) = wq11 at *
                  generalize wq7.heap.size = bq11 at *
                  obtain ⟨g0, g1, f0, f1⟩ := HBX.out
                  have HFX := Hid.mk' (HBX.out.put p r)
                  have HNB := HNBX.out
                  refine wpAnyH_ready (rs := [11]) (by kernel_rfl) (by simp) ?_
                  refine AllReadyH.cons rfl (fun K hK => ?_) AllReadyH.nil
                  go_simp
                  have HBY : Hid (Below wx.heap.size wx ((wq11.setCell ⟨bq11, 0, none⟩ (.int .i64 p)).setCell ⟨bq11, 1, none⟩ (.int .i64 r))) := (hcur.setCell HNB _).setCell HNB _
                  refine hK.out _ _ ?_ (fun hHeld => ?_)
                  · exact HKS.out _ HBY.out
                  clear hK K g0 g1 f0 f1
                  refine wpAnyH_ready (rs := [12]) (by kernel_rfl) (by simp) ?_
                  refine AllReadyH.cons rfl (fun K hK => ?_) AllReadyH.nil
                  go_simp
                  refine hK.out _ _ ?_ (fun hHeld => ?_)
                  · exact HKS.out _ HBY.out
                  clear hK K
                  refine wpAnyH_done (by kernel_rfl) ?_ _
                  go_wp2_with fail
                  go_meet
                  exact ⟨_, rfl, rfl, HFX.out, HBY.out⟩
                exact AllReadyH.nil
              refine AllReadyH.cons (i := 10) (rs := []) rfl (fun K hK => ?_) ?_
              · go_simp
                have HBX := Hid.mk' (FrAt.fresh wq6 0 0)
                have HNBX := Hid.mk' hcur.size
                have hcur := hcur.alloc hcur.size (.cells #[.int .i64 0, .int .i64 0] 40)
                have HV4 := Hid.mk' (HV4.out.later (new_below wq6 (.cells #[.int .i64 0, .int .i64 0] 40)))
                refine hK.out _ _ ?_ (fun hHeld => ?_)
                · exact HKS.out _ hcur
                clear hK K
                generalize wq6.alloc (.cells #[.int .i64 0, .int .i64 0] 40) = wq12 at *
                generalize wq6.heap.size = bq12 at *
                refine wpAnyH_ready (rs := [6]) (by kernel_rfl) (by simp) ?_
                refine AllReadyH.cons (i := 6) (rs := []) rfl (fun K hK => ?_) ?_
                · go_simp
                  refine (HCH.out _ _ _ (below_chain HB.out hcur) (HLR.out _ hcur) HV4.out).mono ?_
                  rintro e wq13 ⟨rfl, hbq⟩
                  have hcur := below_chain hcur hbq
                  have HBX := Hid.mk' (HBX.out.later hbq)
                  clear hbq
                  go_wp2_with fail
                  refine hK.out _ _ ?_ (fun hHeld => ?_)
                  · exact HKS.out _ hcur
                  clear hK K
                  refine wpAnyH_take (i := 7) (v := ?v7s14) rfl (by kernel_rfl) (by kernel_rfl) (by kernel_rfl) (fun _ _ _ h => h) (Or.inl ⟨by rfl, ?hy7s14⟩) (by assumption) ?rest7s14
                  case hy7s14 => (intro w hSw; (try dsimp only at hSw); go_simp <;> (try with_reducible rfl))
                  simp only [Act.put]
                  refine wpAnyH_take (i := 8) (v := ?v8s15) rfl (by kernel_rfl) (by kernel_rfl) (by kernel_rfl) (fun _ _ _ h => h) (Or.inl ⟨by rfl, ?hy8s15⟩) (by assumption) ?rest8s15
                  case hy8s15 => (intro w hSw; (try dsimp only at hSw); go_simp <;> (try with_reducible rfl))
                  simp only [Act.put]
                  refine wpAnyH_take (i := 9) (v := ?v9s16) rfl (by kernel_rfl) (by kernel_rfl) (by kernel_rfl) (fun _ _ _ h => h) (Or.inl ⟨by rfl, ?hy9s16⟩) (by assumption) ?rest9s16
                  case hy9s16 => (intro w hSw; (try dsimp only at hSw); go_simp <;> (try with_reducible rfl))
                  simp only [Act.put]
                  obtain ⟨g0, g1, f0, f1⟩ := HBX.out
                  have HFX := Hid.mk' (HBX.out.put p r)
                  have HNB := HNBX.out
                  refine wpAnyH_ready (rs := [11]) (by kernel_rfl) (by simp) ?_
                  refine AllReadyH.cons rfl (fun K hK => ?_) AllReadyH.nil
                  go_simp
                  have HBY : Hid (Below wx.heap.size wx ((wq13.setCell ⟨bq12, 0, none⟩ (.int .i64 p)).setCell ⟨bq12, 1, none⟩ (.int .i64 r))) := (hcur.setCell HNB _).setCell HNB _
                  refine hK.out _ _ ?_ (fun hHeld => ?_)
                  · exact HKS.out _ HBY.out
                  clear hK K g0 g1 f0 f1
                  refine wpAnyH_ready (rs := [12]) (by kernel_rfl) (by simp) ?_
                  refine AllReadyH.cons rfl (fun K hK => ?_) AllReadyH.nil
                  go_simp
                  refine hK.out _ _ ?_ (fun hHeld => ?_)
                  · exact HKS.out _ HBY.out
                  clear hK K
                  refine wpAnyH_done (by kernel_rfl) ?_ _
                  go_wp2_with fail
                  go_meet
                  exact ⟨_, rfl, rfl, HFX.out, HBY.out⟩
                exact AllReadyH.nil
              exact AllReadyH.nil
            refine AllReadyH.cons (i := 10) (rs := []) rfl (fun K hK => ?_) ?_
            · go_simp
              have HBX := Hid.mk' (FrAt.fresh wxd 0 0)
              have HNBX := Hid.mk' hcur.size
              have hcur := hcur.alloc hcur.size (.cells #[.int .i64 0, .int .i64 0] 40)
              refine hK.out _ _ ?_ (fun hHeld => ?_)
              · exact HKS.out _ hcur
              clear hK K
              generalize wxd.alloc (.cells #[.int .i64 0, .int .i64 0] 40) = wq17 at *
              generalize wxd.heap.size = bq17 at *
              refine wpAnyH_ready (rs := [5]) (by kernel_rfl) (by simp) ?_
              refine AllReadyH.cons (i := 5) (rs := []) rfl (fun K hK => ?_) ?_
              · go_simp
                refine (HIM.out _ (below_chain HB.out hcur)).mono ?_
                rintro e wq18 ⟨v4, rfl, hv4, hbq⟩
                have hcur := below_chain hcur hbq
                have HV4 := Hid.mk' hv4
                obtain ⟨x4, c4, hv4e⟩ := hv4.form
                subst hv4e
                clear hv4
                have HBX := Hid.mk' (HBX.out.later hbq)
                clear hbq
                go_wp2_with fail
                refine hK.out _ _ ?_ (fun hHeld => ?_)
                · exact HKS.out _ hcur
                clear hK K
                refine wpAnyH_ready (rs := [6]) (by kernel_rfl) (by simp) ?_
                refine AllReadyH.cons (i := 6) (rs := []) rfl (fun K hK => ?_) ?_
                · go_simp
                  refine (HCH.out _ _ _ (below_chain HB.out hcur) (HLR.out _ hcur) HV4.out).mono ?_
                  rintro e wq19 ⟨rfl, hbq⟩
                  have hcur := below_chain hcur hbq
                  have HBX := Hid.mk' (HBX.out.later hbq)
                  clear hbq
                  go_wp2_with fail
                  refine hK.out _ _ ?_ (fun hHeld => ?_)
                  · exact HKS.out _ hcur
                  clear hK K
                  refine wpAnyH_take (i := 7) (v := ?v7s20) rfl (by kernel_rfl) (by kernel_rfl) (by kernel_rfl) (fun _ _ _ h => h) (Or.inl ⟨by rfl, ?hy7s20⟩) (by assumption) ?rest7s20
                  case hy7s20 => (intro w hSw; (try dsimp only at hSw); go_simp <;> (try with_reducible rfl))
                  simp only [Act.put]
                  refine wpAnyH_take (i := 8) (v := ?v8s21) rfl (by kernel_rfl) (by kernel_rfl) (by kernel_rfl) (fun _ _ _ h => h) (Or.inl ⟨by rfl, ?hy8s21⟩) (by assumption) ?rest8s21
                  case hy8s21 => (intro w hSw; (try dsimp only at hSw); go_simp <;> (try with_reducible rfl))
                  simp only [Act.put]
                  refine wpAnyH_take (i := 9) (v := ?v9s22) rfl (by kernel_rfl) (by kernel_rfl) (by kernel_rfl) (fun _ _ _ h => h) (Or.inl ⟨by rfl, ?hy9s22⟩) (by assumption) ?rest9s22
                  case hy9s22 => (intro w hSw; (try dsimp only at hSw); go_simp <;> (try with_reducible rfl))
                  simp only [Act.put]
                  obtain ⟨g0, g1, f0, f1⟩ := HBX.out
                  have HFX := Hid.mk' (HBX.out.put p r)
                  have HNB := HNBX.out
                  refine wpAnyH_ready (rs := [11]) (by kernel_rfl) (by simp) ?_
                  refine AllReadyH.cons rfl (fun K hK => ?_) AllReadyH.nil
                  go_simp
                  have HBY : Hid (Below wx.heap.size wx ((wq19.setCell ⟨bq17, 0, none⟩ (.int .i64 p)).setCell ⟨bq17, 1, none⟩ (.int .i64 r))) := (hcur.setCell HNB _).setCell HNB _
                  refine hK.out _ _ ?_ (fun hHeld => ?_)
                  · exact HKS.out _ HBY.out
                  clear hK K g0 g1 f0 f1
                  refine wpAnyH_ready (rs := [12]) (by kernel_rfl) (by simp) ?_
                  refine AllReadyH.cons rfl (fun K hK => ?_) AllReadyH.nil
                  go_simp
                  refine hK.out _ _ ?_ (fun hHeld => ?_)
                  · exact HKS.out _ HBY.out
                  clear hK K
                  refine wpAnyH_done (by kernel_rfl) ?_ _
                  go_wp2_with fail
                  go_meet
                  exact ⟨_, rfl, rfl, HFX.out, HBY.out⟩
                exact AllReadyH.nil
              exact AllReadyH.nil
            exact AllReadyH.nil
          case rest =>
            obtain ⟨B5, rfl, rfl, HF5, HB5⟩ := hcut
            have HL5 := Hid.mk' (below_chain HLB.out HB5.out)
            have HBW := Hid.mk' (below_chain HB.out HB5.out)
            have HRB := Hid.mk' (fun (W : World) (hb : Below wc.heap.size wc W) => (HR1.out.later HB5.out).later hb)
            have HFB := Hid.mk' (fun (W : World) (hb : Below wc.heap.size wc W) => HF5.out.later hb)
            clear HR1 HLB HB HB5 HF5 HKS HLR HCH HSZ2
            have HKS : Hid (∀ W, Below wc.heap.size wc W → (W.cell? ⟨w4.heap.size, 0, none⟩ = some (.bool s1) ∧ W.cell? ⟨w4.heap.size, 1, none⟩ = some (.slice x1 l1 c1) ∧ W.cell? ⟨w4.heap.size, 2, none⟩ = some (.slice x1' l1' c1') ∧ W.cell? ⟨B5, 0, none⟩ = some (.int .i64 (p : Int)) ∧ W.cell? ⟨B5, 1, none⟩ = some (.int .i64 (r : Int)))) := fun W hb => ⟨(HRB.out W hb).c0, (HRB.out W hb).c1, (HRB.out W hb).c2, (HFB.out W hb).c0, (HFB.out W hb).c1⟩
            have hcur : Below wc.heap.size wc wc.drew := (Below.refl _ _).drew
            go_wp2_with fail
            refine region_but_last (n := 4) (S := fun W => W.cell? ⟨w4.heap.size, 0, none⟩ = some (.bool s1) ∧ W.cell? ⟨w4.heap.size, 1, none⟩ = some (.slice x1 l1 c1) ∧ W.cell? ⟨w4.heap.size, 2, none⟩ = some (.slice x1' l1' c1') ∧ W.cell? ⟨B5, 0, none⟩ = some (.int .i64 (p : Int)) ∧ W.cell? ⟨B5, 1, none⟩ = some (.int .i64 (r : Int))) (by kernel_rfl) (by kernel_rfl) (by kernel_rfl) (HKS.out _ hcur) (fun hHeld => ?_)
            refine wpAnyH_take (i := 0) (v := ?v0s23) rfl (by kernel_rfl) (by kernel_rfl) (by kernel_rfl) (fun _ _ _ h => h) (Or.inl ⟨by rfl, ?hy0s23⟩) (by assumption) ?rest0s23
            case hy0s23 => (intro w hSw; (try dsimp only at hSw); go_simp <;> (try with_reducible rfl))
            simp only [Act.put]
            refine wpAnyH_take (i := 1) (v := ?v1s24) rfl (by kernel_rfl) (by kernel_rfl) (by kernel_rfl) (fun _ _ _ h => h) (Or.inl ⟨by rfl, ?hy1s24⟩) (by assumption) ?rest1s24
            case hy1s24 => (intro w hSw; (try dsimp only at hSw); go_simp <;> (try with_reducible rfl))
            simp only [Act.put]
            refine wpAnyH_ready (rs := [2]) (by kernel_rfl) (by simp) ?_
            refine AllReadyH.cons rfl (fun K hK => ?_) AllReadyH.nil
            go_simp
            refine (HOF.out _).mono ?_
            rintro e w5 ⟨r1, rfl, hr1, hb5⟩
            have hcur := below_chain hcur hb5
            have HX1 := Hid.mk' hr1
            obtain ⟨t1, p1, m1, q1, p1', m1', q1', hr1e⟩ := hr1.sl
            subst hr1e
            clear hr1
            go_wp2_with fail
            refine hK.out _ _ ?_ (fun hHeld => ?_)
            · exact HKS.out _ hcur
            clear hK K
            refine wpAnyH_ready (rs := [3]) (by kernel_rfl) (by simp) ?_
            refine AllReadyH.cons rfl (fun K hK => ?_) AllReadyH.nil
            go_simp
            refine (HPL.out _ _ _ (HRB.out _ hcur).rat HX1.out).mono ?_
            rintro e w7 ⟨r3, rfl, hr3, hb7⟩
            have hcur := below_chain hcur hb7
            have HX3 := Hid.mk' hr3
            obtain ⟨t3, p3, m3, q3, p3', m3', q3', hr3e⟩ := hr3.sl
            subst hr3e
            clear hr3
            have hL := HRB.out _ hcur
            have fz0 := hL.fz 0 (by decide)
            have fz1 := hL.fz 1 (by decide)
            have fz2 := hL.fz 2 (by decide)
            have k0 := hL.c0
            have k1 := hL.c1
            have k2 := hL.c2
            obtain ⟨⟨g0, g1⟩, ⟨g2, g3⟩, g4⟩ := put_three' (.bool t3) (.slice p3 m3 q3) (.slice p3' m3' q3') k0 k1 k2
            have HSET := Hid.mk' (hL.put HX3.out)
            clear hL
            go_wp2_with fail
            refine hK.out _ _ ?_ (fun hHeld => ?_)
            · exact HKS.out _ hcur
            clear hK K
            refine wpAnyH_done (by kernel_rfl) ?_ _
            refine ahead_last rfl (fun K hK => ?_)
            go_simp
            refine hK _ _ ?_
            clear hK K
            unfold put3 at HSET
            have HB8 : Hid (Below w.heap.size w (((w7.setCell ⟨w4.heap.size, 0, none⟩ (.bool t3)).setCell ⟨w4.heap.size, 1, none⟩ (.slice p3 m3 q3)).setCell ⟨w4.heap.size, 2, none⟩ (.slice p3' m3' q3'))) := (((below_chain HBW.out hcur).setCell HLT1.out _).setCell HLT1.out _).setCell HLT1.out _
            have HL8 : Hid (Below w4.heap.size w4 (((w7.setCell ⟨w4.heap.size, 0, none⟩ (.bool t3)).setCell ⟨w4.heap.size, 1, none⟩ (.slice p3 m3 q3)).setCell ⟨w4.heap.size, 2, none⟩ (.slice p3' m3' q3'))) := (((below_chain HL5.out hcur).setCell (Nat.le_refl _) _).setCell (Nat.le_refl _) _).setCell (Nat.le_refl _) _
            generalize ((w7.setCell ⟨w4.heap.size, 0, none⟩ (.bool t3)).setCell ⟨w4.heap.size, 1, none⟩ (.slice p3 m3 q3)).setCell ⟨w4.heap.size, 2, none⟩ (.slice p3' m3' q3') = W8 at *
            clear HX1 HX3 hHeld g0 g1 g2 g3 g4 k0 k1 k2 fz0 fz1 fz2 hcur HKS HRB HFB hb5 hb7
            go_wp2_with fail
            exact ⟨⟨j + 1, _, _, _, _, _, _, _, h1, by go_num, by rw [hRL.out]; go_num, by show RBox _ _ _ _ _ _ _ _ _ _ _; rw [hNL.out]; exact HSET.out, HL8.out, HB8.out⟩, by simp [intOf]; omega⟩
        · obtain rfl : cl = j := by omega
          have hjI : ¬ (cl : Int) < (cl : Int) := by omega
          have HRA : Hid (lsum fR (L.take cl) = M) := by show _ = _; rw [List.take_of_length_le (by rw [HLC.out]; exact Nat.le_refl _)]; exact HTR.out
          have HNA : Hid (lsum fN (L.take cl) = D) := by show _ = _; rw [List.take_of_length_le (by rw [HLC.out]; exact Nat.le_refl _)]; exact HTN.out
          rw [HRA.out, Int.sub_self]
          rw [HNA.out, HOD.out.1, HOD.out.2] at HR1
          have HKS : Hid (∀ W, Below wx.heap.size wx W → (W.cell? ⟨w4.heap.size, 0, none⟩ = some (.bool s1) ∧ W.cell? ⟨w4.heap.size, 1, none⟩ = some (.slice x1 l1 c1) ∧ W.cell? ⟨w4.heap.size, 2, none⟩ = some (.slice x1' l1' c1'))) := fun W hb => ⟨(HR1.out.later hb).c0, (HR1.out.later hb).c1, (HR1.out.later hb).c2⟩
          have HCM : Hid (∀ W u, Below wx.heap.size wx W → RatioAt W u (lowN 1 1) (lowD 1 1) → Calls Tryd.prog 28 #[.agg #[.bool s1, .slice x1 l1 c1, .slice x1' l1' c1'], u] W fun e w' => e = .returned (.int .i64 0) ∧ Below W.heap.size W w') := fun W u hb hu => RCmp_any _ u _ _ _ _ 20 W (HR1.out.later hb).rat hu (by decide) (by decide) (by decide) (by decide) (by decide)
          have hcur0 : Below wx.heap.size wx wx := Below.refl _ _
          have hcur : Below wx.heap.size wx wx.drew := (Below.refl _ _).drew
          go_wp2_with fail
          go_region_held3 (fun W => W.cell? ⟨w4.heap.size, 0, none⟩ = some (.bool s1) ∧ W.cell? ⟨w4.heap.size, 1, none⟩ = some (.slice x1 l1 c1) ∧ W.cell? ⟨w4.heap.size, 2, none⟩ = some (.slice x1' l1' c1'))
            (first | exact HKS.out _ hcur0 | exact HKS.out _ hcur | exact HKS.out _ hbw5 | exact HKS.out _ hbw6)
            (first
              | (go_at_call 28; refine (HCM.out _ _ hbw5 HX5.out).mono ?_; rintro e w6 ⟨rfl, hb6⟩; have hbw6 := below_chain hbw5 hb6; clear hb6)
              | (go_at_call 25; refine (HQ1.out _).mono ?_; rintro e w5 ⟨r5, rfl, hr5, hb5⟩; have hbw5 := below_chain hcur hb5; have HX5 := Hid.mk' hr5; obtain ⟨t5, p5, m5, q5, p5', m5', q5', hr5e⟩ := hr5.sl; subst hr5e; clear hr5 hb5))
          all_goals
            go_wp2_with fail
            go_ret
            exact ⟨rfl, below_chain HB.out hbw6⟩
end Go.Proofs.YteicjedmingplaaDoor

/- The law TypesSums, whatever it is called with. -/
namespace Go.Proofs.YteicjedmingplaaDoor
open Go.RowKit

set_option maxRecDepth 100000 in
set_option maxHeartbeats 4000000 in
theorem TypesSums_all (a : Nat → Addr) (x : Int) (ad : Option Addr) (n c : Nat) (y : Nat → Int) (w : World) (hE : Errs w a) (hy : NumsAt w (.slice ad n c) n y) (hm : n ≤ maxLen) :
    Calls Tryd.prog 6 #[.int .i64 x, .slice ad n c] w fun e w' => e = .returned (.bool true) ∧ Below w.heap.size w w' := by
  unfold maxLen at hm
  have HP := Hid.mk' (pair_any w)
  have HY := Hid.mk' (fun (W : World) (hb : Below w.heap.size w W) => hy.later hb)
  by_cases h4 : 4 < n
  · have hI : (4 : Int) < (n : Int) := by omega
    clear hE hy
    go_enter Tryd.func6, Tryd.ntmps6
    go_wp2_with fail
    refine HP.out.mono ?_
    rintro e w1 ⟨rfl, hb1⟩
    have HB1 := Hid.mk' hb1
    clear hb1
    go_wp2_with fail
    go_ret
    exact ⟨rfl, HB1.out⟩
  have hI : (n : Int) ≤ 4 := by omega
  by_cases h7 : 7 < x
  · clear hE hy
    go_enter Tryd.func6, Tryd.ntmps6
    go_wp2_with fail
    refine HP.out.mono ?_
    rintro e w1 ⟨rfl, hb1⟩
    have HB1 := Hid.mk' hb1
    clear hb1
    go_wp2_with fail
    go_ret
    exact ⟨rfl, HB1.out⟩
  have h7I : x ≤ 7 := by omega
  have HWE := Hid.mk' (fun (W : World) (hb : Below w.heap.size w W) => WeightsError_any _ n y W (HY.out W hb) (by omega))
  by_cases hw : weightsErr y n = 0
  · have hw2 := weightsErr_ok hw
    have hn0 : 0 < n := by
      rcases Nat.eq_zero_or_pos n with h | h
      · have := hw2.2.pos; rw [h] at this; exact absurd this (Int.lt_irrefl 0)
      · exact h
    obtain ⟨k, rfl⟩ : ∃ k, n = k + 1 := ⟨n - 1, by omega⟩
    obtain ⟨q, hq⟩ : ∃ q : Nat → Nat, ∀ i, i < k + 1 → y i = (q i : Int) := ⟨fun i => (y i).toNat, fun i hi => by have := hw2.2.nn i hi; show y i = ((y i).toNat : Int); omega⟩
    obtain ⟨b, o, rfl, hrow⟩ : ∃ b o, ad = some ⟨b, o, none⟩ ∧ RowAt w b o (k + 1) y := by
      rcases hy with ⟨_, _, _, hx⟩ | ⟨b, o, cap, hx, _, hr⟩
      · omega
      · obtain ⟨rfl, _⟩ : ad = _ ∧ _ := by simpa using hx
        exact ⟨b, o, rfl, hr⟩
    have hWS : sumN y (k + 1) = (sumU q (k + 1) : Int) := sumU_sumN hq
    have hS4 : sumU q (k + 1) ≤ 4096 := by have := hw2.2.le; rw [hWS] at this; omega
    have hq6 : ∀ i, i < k + 1 → q i ≤ 4096 := fun i hi => by
      have h1 : sumU q i + q i ≤ sumU q (k + 1) := sumU_le q (show i + 1 ≤ k + 1 from hi)
      omega
    have HSM : Hid (∀ W, Below w.heap.size w W → Calls Tryd.prog 24 #[.slice (some ⟨b, o, none⟩) (k + 1) c] W fun e w' => e = .returned (.int .i64 (sumU q (k + 1) : Nat)) ∧ w' = W) := fun W hb => by
      have h1 := Sum_some b o c (k + 1) y W (hrow.later hb) (fun j hj => by rw [sumU_sumN (fun i hi => hq i (by omega))]; have := sumU_le q hj; omega) (fun i hi => by rw [hq i hi]; have := hq6 i hi; omega) (by omega)
      rw [hWS] at h1
      exact h1
    rw [hw] at HWE
    by_cases h60 : 60 < sumU q (k + 1)
    · have hSI : (60 : Int) < (sumU q (k + 1) : Int) := by omega
      generalize sumU q (k + 1) = S at *
      generalize k + 1 = m at *
      clear hE hy hw hw2 hq hq6 hWS hrow
      go_enter Tryd.func6, Tryd.ntmps6
      go_wp2_with fail
      refine HP.out.mono ?_
      rintro e w1 ⟨rfl, hb1⟩
      have HB1 := Hid.mk' hb1
      clear hb1
      go_wp2_with fail
      refine (HWE.out _ HB1.out).mono ?_
      rintro e w2 ⟨rfl, hw2⟩
      rw [hw2]
      clear hw2 w2
      go_wp2_with fail
      refine (HSM.out _ HB1.out).mono ?_
      rintro e w2 ⟨rfl, hw2⟩
      rw [hw2]
      clear hw2 w2
      go_wp2_with fail
      go_ret
      exact ⟨rfl, HB1.out⟩
    by_cases hx : x < 0
    · have hSI : (sumU q (k + 1) : Int) ≤ 60 := by omega
      have HA := Hid.mk' (fun W (hb : Below w.heap.size w W) => All_bad x (((k + 1 : Nat) : Int)) W (hE.below hb) (Or.inl hx))
      have HCD : Hid (∀ W, Below w.heap.size w W → Calls Tryd.prog 11 #[errV a 2, .int .i64 2] W fun e w' => e = .returned (.bool true) ∧ Below W.heap.size W w') := fun W hb => coded_errV a 2 (by decide) W (hE.below hb)
      rw [errV_pos a (by decide)] at HCD
      generalize sumU q (k + 1) = S at *
      generalize k + 1 = m at *
      clear hE hy hw hw2 hq hq6 hWS hrow
      go_enter Tryd.func6, Tryd.ntmps6
      go_wp2_with fail
      refine HP.out.mono ?_
      rintro e w1 ⟨rfl, hb1⟩
      have HB1 := Hid.mk' hb1
      clear hb1
      go_wp2_with fail
      refine (HWE.out _ HB1.out).mono ?_
      rintro e w2 ⟨rfl, hw2⟩
      rw [hw2]
      clear hw2 w2
      go_wp2_with fail
      refine (HSM.out _ HB1.out).mono ?_
      rintro e w2 ⟨rfl, hw2⟩
      rw [hw2]
      clear hw2 w2
      go_wp2_with fail
      refine (HA.out _ HB1.out).mono ?_
      rintro e w3 ⟨rfl, hb3⟩
      have HB3 := Hid.mk' (below_chain HB1.out hb3)
      clear hb3
      go_wp2_with fail
      refine (HCD.out _ HB3.out).mono ?_
      rintro e w4 ⟨rfl, hb4⟩
      have HB4 := Hid.mk' (below_chain HB3.out hb4)
      clear hb4
      go_wp2_with fail
      go_ret
      exact ⟨rfl, HB4.out⟩
    obtain ⟨j, rfl⟩ : ∃ j : Nat, x = (j : Int) := ⟨x.toNat, by omega⟩
    exact TypesSums_main a b o c j k _ y q w hE hrow (by omega) (by omega) hw hq rfl (by omega)
  · have hq : (0 : Int) < (weightsErr y n : Int) := by omega
    generalize weightsErr y n = er at *
    clear hE hy hw
    go_enter Tryd.func6, Tryd.ntmps6
    go_wp2_with fail
    refine HP.out.mono ?_
    rintro e w1 ⟨rfl, hb1⟩
    have HB1 := Hid.mk' hb1
    clear hb1
    go_wp2_with fail
    refine (HWE.out _ HB1.out).mono ?_
    rintro e w2 ⟨rfl, hw2⟩
    rw [hw2]
    clear hw2 w2
    go_wp2_with fail
    go_ret
    exact ⟨rfl, HB1.out⟩
end Go.Proofs.YteicjedmingplaaDoor

/- What the rows' condition on package variables gives a walk: eight different sentinels with their texts, and the handle of the type error. -/
namespace Go.Proofs.YteicjedmingplaaDoor
open Go.ChangeShapes Go.WideShapes Go.RowKit

theorem Tryd.own : ownKnob Tryd.prog.godebug = none := by kernel_rfl
theorem Tryd.et : Tryd.prog.globalNamed "errors.errorType" = some 8 := by kernel_rfl
theorem Tryd.rt : (Tryd.prog.cutTypes.find? (·.1 == "internal/reflectlite.rtype")).map (·.2) = some 120 := by kernel_rfl
theorem Tryd.oneRow : ((List.range 172).filter fun t => Tryd.prog.rowNamed t [101, 114, 114, 111, 114]) = [25] := by kernel_rfl
theorem Tryd.size : Tryd.prog.types.size = 172 := by kernel_rfl
theorem Tryd.star : ("*" ++ "errors.errorString" : String) = "*errors.errorString" := by decide
theorem Tryd.rowE (u : TypeId) (h : Tryd.prog.typeName? 3 u = some "*errors.errorString") : u = 139 :=
  typeName_ptr_named (nm := "errors.errorString") (by rw [Tryd.star]; kernel_rfl) (by kernel_rfl) (by decide) u (by rw [Tryd.star]; exact h)
theorem Tryd.cellsE : Tryd.prog.cellsOf 160 = 1 := by kernel_rfl
theorem Tryd.cellsS : Tryd.prog.cellsOf 9 = 1 := by kernel_rfl
theorem Tryd.g0 : Tryd.prog.globalNamed "demon/api.ErrText" = some 2 := by kernel_rfl
theorem Tryd.g1 : Tryd.prog.globalNamed "demon/api.ErrBound" = some 0 := by kernel_rfl
theorem Tryd.g2 : Tryd.prog.globalNamed "demon/api.ErrShape" = some 1 := by kernel_rfl
theorem Tryd.g3 : Tryd.prog.globalNamed "demon/api.ErrZero" = some 3 := by kernel_rfl
theorem Tryd.g4 : Tryd.prog.globalNamed "demon/api.ErrName" = some 4 := by kernel_rfl
theorem Tryd.g5 : Tryd.prog.globalNamed "demon/api.ErrNone" = some 5 := by kernel_rfl
theorem Tryd.g6 : Tryd.prog.globalNamed "demon/api.ErrOrder" = some 6 := by kernel_rfl
theorem Tryd.g7 : Tryd.prog.globalNamed "demon/api.ErrKind" = some 7 := by kernel_rfl

/-- Any number of listed sentinels of one type: each one's pointer, text and row; no two are one. -/
theorem laid_list {P : Program} {W : World} {nm : String} {ti tp te ts : TypeId} {ms : Array (String × TypeId)} {f : Field}
    (hi : P.underlying ti = some (.interface ms)) (hrow : ∀ u, P.typeName? 3 u = some nm → u = tp)
    (hp : P.underlying tp = some (.pointer te)) (he : P.underlying te = some (.struct #[f])) (hft : f.type = ts) (hfo : f.offset = 0) (hs : P.underlying ts = some .string) (hc : P.cellsOf te = 1) (hcs : P.cellsOf ts = 1) :
    ∀ (L : List (String × List UInt8)) (ps : List MemPlace), (∀ x, x ∈ L → ∃ g, P.globalNamed x.1 = some g ∧ (P.globals[g]?).map (·.type) = some ti) →
      DataW.LaidVars P W (L.map fun x => (x.1, .iface nm (.ptr (.agg [.lit (.string x.2)])))) ps → ps.Nodup →
      (∀ b off, MemPlace.cell b off ∈ ps → (∃ c t, W.heap[b]? = some (.cells c t (0, 0))) ∧ ∀ u v, W.cell? ⟨b, off, none⟩ = some (.iface u v) → Value.okWide P W .any 0 u v) →
      ∃ a : Nat → Addr, (∀ i x, L[i]? = some x → W.var? P x.1 = some #[.iface tp (.pointer (some (a i)))] ∧ (∃ s, W.cell? (a i) = some (.string s) ∧ s.data.toList = x.2) ∧
          (∃ c t, W.heap[(a i).block]? = some (.cells c t (0, 0))) ∧ MemPlace.cell (a i).block (a i).off ∈ ps) ∧
        ∀ i j, i < L.length → j < L.length → i ≠ j → a i ≠ a j := by
  intro L
  induction L with
  | nil => intro ps _ _ _ _; exact ⟨fun _ => default, fun i x h => by simp at h, fun i j h => by simp at h⟩
  | cons x r ih =>
    intro ps hgs hv hnd hrows
    obtain ⟨n, text⟩ := x
    obtain ⟨g0, t0, cs0, f0, p0, q0, hg0, ht0, hv0, hd0, hvr, e0⟩ := hv
    obtain ⟨g, hg, ht⟩ := hgs (n, text) (List.mem_cons_self ..)
    obtain rfl := Option.some.inj (hg.symm.trans hg0)
    obtain rfl := Option.some.inj (ht.symm.trans ht0)
    subst e0
    obtain ⟨l0⟩ := cs0
    have ok0 : ∀ u v, l0 = [.iface u v] → Value.okWide P W .any 0 u v := fun u v e => by
      subst e
      exact (hrows g 0 (by simp [MemPlace.row])).2 u v (by simpa using World.var?_cell hg0 hv0 0)
    obtain ⟨a0, s0, rfl, hc0, hs0, hz0, rfl⟩ := errorString_of_trod hi hrow hp he hft hfo hs hc hcs hd0 ok0
    obtain ⟨c0, tt0, hb0⟩ := (hrows a0.block a0.off (by simp [MemPlace.row])).1
    have hnq : q0.Nodup := List.Nodup.sublist (List.sublist_append_right _ _) hnd
    obtain ⟨a', ha', hne'⟩ := ih q0 (fun x hx => hgs x (List.mem_cons_of_mem _ hx)) hvr hnq (fun b off hm => hrows b off (List.mem_append_right _ hm))
    have hnot : MemPlace.cell a0.block a0.off ∉ q0 := by
      intro hm
      have := (List.nodup_append.1 hnd).2.2
      exact this (.cell a0.block a0.off) (by simp [MemPlace.row]) (.cell a0.block a0.off) hm rfl
    refine ⟨fun i => match i with | 0 => a0 | k + 1 => a' k, ?_, ?_⟩
    · intro i x hx
      cases i with
      | zero =>
        simp only [List.getElem?_cons_zero, Option.some.injEq] at hx
        subst hx
        exact ⟨hv0, ⟨s0, hc0, hs0⟩, ⟨c0, tt0, hb0⟩, by simp [MemPlace.row]⟩
      | succ k =>
        simp only [List.getElem?_cons_succ] at hx
        obtain ⟨h1, h2, h3, h4⟩ := ha' k x hx
        exact ⟨h1, h2, h3, List.mem_append_right _ h4⟩
    · have far : ∀ k, k < r.length → a0 ≠ a' k := fun k hk e => by
        obtain ⟨_, _, _, h4⟩ := ha' k r[k] (by simp [hk])
        rw [← e] at h4
        exact hnot h4
      intro i j hi' hj' hij
      cases i with
      | zero =>
        cases j with
        | zero => exact absurd rfl hij
        | succ k => exact far k (by simpa using hj')
      | succ m =>
        cases j with
        | zero => exact (far m (by simpa using hi')).symm
        | succ k => exact hne' m k (by simpa using hi') (by simpa using hj') (by omega)

/-- The names and texts, in the rows' order. -/
def eightNames : List (String × List UInt8) := [("demon/api.ErrText", [100, 101, 109, 111, 110, 58, 32, 116, 101, 120, 116]), ("demon/api.ErrBound", [100, 101, 109, 111, 110, 58, 32, 98, 111, 117, 110, 100]), ("demon/api.ErrShape", [100, 101, 109, 111, 110, 58, 32, 115, 104, 97, 112, 101]), ("demon/api.ErrZero", [100, 101, 109, 111, 110, 58, 32, 122, 101, 114, 111]), ("demon/api.ErrName", [100, 101, 109, 111, 110, 58, 32, 110, 97, 109, 101]), ("demon/api.ErrNone", [100, 101, 109, 111, 110, 58, 32, 110, 111, 110, 101]), ("demon/api.ErrOrder", [100, 101, 109, 111, 110, 58, 32, 111, 114, 100, 101, 114]), ("demon/api.ErrKind", [100, 101, 109, 111, 110, 58, 32, 107, 105, 110, 100])]
def laidAll : List (String × DataW Unit) := [("errors.errorType", Rows.laid_errors_errorType), ("demon/api.ErrText", Rows.laid_demon_api_ErrText), ("demon/api.ErrBound", Rows.laid_demon_api_ErrBound), ("demon/api.ErrShape", Rows.laid_demon_api_ErrShape), ("demon/api.ErrZero", Rows.laid_demon_api_ErrZero), ("demon/api.ErrName", Rows.laid_demon_api_ErrName), ("demon/api.ErrNone", Rows.laid_demon_api_ErrNone), ("demon/api.ErrOrder", Rows.laid_demon_api_ErrOrder), ("demon/api.ErrKind", Rows.laid_demon_api_ErrKind)]
theorem laidAll_parts (W : World) : laidMetH Tryd.prog laidAll W = (laidMet Tryd.prog (eightNames.map fun x => (x.1, .iface "*errors.errorString" (.ptr (.agg [.lit (.string x.2)])))) W ∧ handlesMet Tryd.prog [("errors.errorType", Rows.laid_errors_errorType)] W) := by kernel_rfl

theorem var_at {W : World} {n : String} {g : Nat} {v : Value} (hg : Tryd.prog.globalNamed n = some g) (h : W.var? Tryd.prog n = some #[v]) : W.cell? ⟨g, 0, none⟩ = some v := by
  simpa using World.var?_cell hg h 0

theorem errs_of_laid {W : World} (h : laidMetH Tryd.prog laidAll W) : ∃ a : Nat → Addr, Errs W a ∧ ∀ i x, eightNames[i]? = some x → ∃ s, W.cell? (a i) = some (.string s) ∧ s.data.toList = x.2 := by
  rw [laidAll_parts] at h
  obtain ⟨⟨ps, hv, hnd, hrows⟩, hh⟩ := h
  obtain ⟨name, u, ty, e1, e2, e3, e4, e5⟩ := hh _ (List.mem_singleton.2 rfl)
  have en : name = [101, 114, 114, 111, 114] := (Option.some.inj e1).symm
  subst en
  obtain rfl := Option.some.inj (Tryd.rt.symm.trans e2)
  have hm : ty ∈ (List.range 172).filter fun t => Tryd.prog.rowNamed t [101, 114, 114, 111, 114] := List.mem_filter.2 ⟨List.mem_range.2 (by rw [← Tryd.size]; exact e3), e4⟩
  rw [Tryd.oneRow] at hm
  obtain rfl := List.mem_singleton.1 hm
  have hth : typeHandle Tryd.prog 25 = .pointer (some ⟨9, 25, none⟩) := by kernel_rfl
  rw [hth] at e5
  obtain ⟨a, ha, hne⟩ := laid_list Tryd.underlying25 Tryd.rowE Tryd.underlying139 Tryd.underlying160 rfl rfl Tryd.underlying9 Tryd.cellsE Tryd.cellsS eightNames ps
    (fun x hx => by
      simp only [eightNames, List.mem_cons, List.not_mem_nil, or_false] at hx
      rcases hx with rfl | rfl | rfl | rfl | rfl | rfl | rfl | rfl
      · exact ⟨_, Tryd.g0, by kernel_rfl⟩
      · exact ⟨_, Tryd.g1, by kernel_rfl⟩
      · exact ⟨_, Tryd.g2, by kernel_rfl⟩
      · exact ⟨_, Tryd.g3, by kernel_rfl⟩
      · exact ⟨_, Tryd.g4, by kernel_rfl⟩
      · exact ⟨_, Tryd.g5, by kernel_rfl⟩
      · exact ⟨_, Tryd.g6, by kernel_rfl⟩
      · exact ⟨_, Tryd.g7, by kernel_rfl⟩) hv hnd hrows
  refine ⟨a, ⟨var_at Tryd.g0 (ha 0 _ rfl).1, var_at Tryd.g1 (ha 1 _ rfl).1, var_at Tryd.g2 (ha 2 _ rfl).1, var_at Tryd.g3 (ha 3 _ rfl).1, var_at Tryd.g4 (ha 4 _ rfl).1, var_at Tryd.g5 (ha 5 _ rfl).1, var_at Tryd.g6 (ha 6 _ rfl).1, var_at Tryd.g7 (ha 7 _ rfl).1, var_at Tryd.et e5, ?_, ?_⟩, fun i x hx => (ha i x hx).2.1⟩
  · intro i hi
    have hl : eightNames.length = 8 := rfl
    exact (ha i eightNames[i] (List.getElem?_eq_getElem (by omega))).2.2.1
  · intro i j hi hj hij
    exact hne i j hi hj hij

/-- The door's own heap meets the condition. -/
theorem door_met (os : Os) (args : Array Value) : laidMetH Tryd.prog laidAll ((World.doorLaid Tryd.prog 168 os).forCall (fun _ _ => 0) ⟨#[], args, []⟩).memory :=
  laidMetH_of_parts3 (fuel := 8) (laidMet_of_run' 8 (by kernel_rfl) (by kernel_rfl)) (by kernel_rfl) (by kernel_rfl)
end Go.Proofs.YteicjedmingplaaDoor

/- A parameter of type []int opened. -/
namespace Go.Proofs.YteicjedmingplaaDoor
open Go.ChangeShapes Go.WideShapes Go.ChangeAt Go.RowKit Go.Joins Go.Deep

theorem Tryd.laidOut : laidOutB Tryd.prog = true := by kernel_rfl
theorem Tryd.cellsInt : Tryd.prog.cellsOf 3 = 1 := by kernel_rfl
theorem Tryd.cellsInts : Tryd.prog.cellsOf 35 = 1 := by kernel_rfl

set_option maxRecDepth 100000 in
/-- What a parameter of type []int gives: its slice, its numbers. -/
theorem open_nums {H : Type} {enc : TypeId × Value → H} {W : World} {base : Nat} {v : Value} {d : DataW H} {p : List MemPlace} (hv : Value.okWide Tryd.prog W .any base 35 v)
    (h : DataW.Trod enc Tryd.prog W 0 (fun _ => true) true 35 v d p) :
    ∃ (ad : Option Addr) (n cap : Nat) (z : Nat → Int), v = .slice ad n cap ∧ n ≤ maxLen ∧ NumsAt W (.slice ad n cap) n z := by
  obtain ⟨ad, n, cap, rfl⟩ := okWide_slice Tryd.underlying35 hv
  obtain ⟨fuel, hf⟩ := h
  rcases open_ints Tryd.underlying35 Tryd.underlying3 Tryd.cellsInt hf with ⟨hc, _⟩ | ⟨a, len, cap', zs, hc, _, hl, hm, hz, _, hcell, _⟩
  · simp [Value.cells] at hc
    obtain ⟨rfl, rfl, rfl⟩ := hc
    exact ⟨none, 0, 0, fun _ => 0, rfl, Nat.zero_le _, Or.inl ⟨none, 0, rfl, rfl⟩⟩
  · simp [Value.cells] at hc
    obtain ⟨rfl, rfl, rfl⟩ := hc
    simp only [if_true] at hz
    rcases Nat.eq_zero_or_pos n with rfl | hpos
    · exact ⟨some a, 0, cap, fun _ => 0, rfl, Nat.zero_le _, Or.inl ⟨some a, cap, rfl, rfl⟩⟩
    · obtain ⟨b, o, spot⟩ := a
      have hspot : spot = none := by simpa [Addr.add] using World.cell?_spot (hcell 0 (by omega))
      subst hspot
      refine ⟨_, n, cap, fun i => zs.getD i 0, rfl, by omega, Or.inr ⟨b, o, cap, rfl, hpos, fun i hi => ?_⟩⟩
      have := hcell i (by omega)
      rw [Go.Proofs.YteicjedmingplaaDoor.add_plain] at this
      exact this
end Go.Proofs.YteicjedmingplaaDoor
