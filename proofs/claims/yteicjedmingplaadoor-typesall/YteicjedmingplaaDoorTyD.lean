/- The document's types: how many, and all of them. -/
import Derived.Test.YteicjedmingplaaDoorLol
import Derived.Test.YteicjedmingplaaDoorTyMath
namespace Go.Proofs.YteicjedmingplaaDoor
open Go.RowKit

theorem two_heap1 (w : World) (X Y : Obj) : ((w.alloc X).alloc Y).heap[w.heap.size + 1]? = some Y := by
  show ((w.heap.push X).push Y)[w.heap.size + 1]? = some Y
  generalize w.heap = h
  have := Array.getElem?_push_size (xs := h.push X) (x := Y)
  rwa [Array.size_push] at this
theorem two_heap0 (w : World) (X Y : Obj) : ((w.alloc X).alloc Y).heap[w.heap.size]? = some X := by
  show ((w.heap.push X).push Y)[w.heap.size]? = some X
  generalize w.heap = h
  simp [Array.getElem?_push]
set_option maxRecDepth 100000 in
set_option maxHeartbeats 1000000 in
theorem FewError_bad (n k : Int) (w : World) (h : n < 0 ∨ 20 < n ∨ k < 1 ∨ 6 < k) : Calls Tryd.prog 8 #[.int .i64 n, .int .i64 k] w fun e w' => e = .returned (.int .i64 2) ∧ w' = w := by
  go_enter Tryd.func8, Tryd.ntmps8
  by_cases h1 : n < 0
  · clear h
    go_wp2_with fail
    go_ret
    exact ⟨rfl, rfl⟩
  · by_cases h2 : 20 < n
    · clear h
      go_wp2_with fail
      go_ret
      exact ⟨rfl, rfl⟩
    · by_cases h3 : k < 1
      · clear h
        go_wp2_with fail
        go_ret
        exact ⟨rfl, rfl⟩
      · have h4 : 6 < k := by omega
        clear h
        go_wp2_with fail
        go_ret
        exact ⟨rfl, rfl⟩
set_option maxRecDepth 100000 in
set_option maxHeartbeats 1000000 in
theorem FewError_ok (n k : Int) (w : World) (h1 : 0 ≤ n) (h2 : n ≤ 20) (h3 : 1 ≤ k) (h4 : k ≤ 6) : Calls Tryd.prog 8 #[.int .i64 n, .int .i64 k] w fun e w' => e = .returned (.int .i64 0) ∧ w' = w := by
  go_enter Tryd.func8, Tryd.ntmps8
  go_wp2_with fail
  go_ret
  exact ⟨rfl, rfl⟩

set_option maxRecDepth 100000 in
set_option maxHeartbeats 1000000 in
theorem CountOf_any : ∀ (k n : Nat) (w : World), k < 6 → n < 21 → Calls Tryd.prog 12 #[.int .i64 n, .int .i64 ((k : Int) + 1)] w fun e w' => e = .returned (.int .i64 (cntT k n : Nat)) ∧ Below w.heap.size w w'
  | 0, n, w, _, hn => by
    go_enter Tryd.func12, Tryd.ntmps12
    go_wp2_with fail
    go_ret
    exact ⟨rfl, Below.refl _ _⟩
  | k + 1, n, w, hk, hn => by
    have HI := Hid.mk' (fun (m : Nat) (W : World) (hm : m < 21) => CountOf_any k m W (by omega) hm)
    have HC := Hid.mk' (cntT_small hk hn)
    have HE : Hid (cntT (k + 1) n = cntS (fun i => cntT k (n - i)) (n + 1)) := rfl
    have hn0 : (0 : Int) ≤ (n : Int) := by omega
    have hn6 : (n : Int) < 21 := by omega
    rw [show (((k + 1 : Nat) : Int) + 1) = (k : Int) + 1 + 1 by omega]
    obtain ⟨K, hK⟩ : ∃ K : Int, K = (k : Int) + 1 + 1 := ⟨_, rfl⟩
    rw [← hK]
    rw [show (k : Int) + 1 = K - 1 by omega] at HI
    have hK2 : 2 ≤ K := by omega
    have hK6 : K ≤ 6 := by omega
    have hKb : (K == 1) = false := by simp; omega
    clear hK
    go_enter Tryd.func12, Tryd.ntmps12
    go_wp2_with fail
    go_loopw [5, 6] (fun s i wr => ∃ j : Nat, j ≤ n + 1 ∧ i = .int .i64 j ∧ s = .int .i64 (cntS (fun i => cntT k (n - i)) j : Nat) ∧ Hid (Below w.heap.size w wr)) (fun _ i _ => n + 1 - (intOf i).toNat)
    case atStart => exact ⟨0, Nat.zero_le _, rfl, rfl, Below.refl _ _⟩
    case round =>
      obtain ⟨j, hj, rfl, rfl, HB⟩ := hrel
      have hj0 : (0 : Int) ≤ (j : Int) := by omega
      rcases Nat.lt_or_ge j (n + 1) with h1 | h1
      · have hjn : (j : Int) ≤ (n : Int) := by omega
        have HJ := Hid.mk' (fun W => HI.out (n - j) W (by omega))
        have hb : cntS (fun i => cntT k (n - i)) (j + 1) ≤ 10000000 := by have h2 := cntS_le (fun i => cntT k (n - i)) (show j + 1 ≤ n + 1 from h1); have h3 := HC.out; rw [HE.out] at h3; omega
        have hs : cntS (fun i => cntT k (n - i)) (j + 1) = cntS (fun i => cntT k (n - i)) j + cntT k (n - j) := rfl
        have HSX := Hid.mk' hs
        rw [hs] at hb
        rw [show ((n - j : Nat) : Int) = (n : Int) - (j : Int) by omega] at HJ
        clear hs
        obtain ⟨x, hx⟩ : ∃ x, x = cntS (fun i => cntT k (n - i)) j := ⟨_, rfl⟩
        obtain ⟨y, hy⟩ : ∃ y, y = cntT k (n - j) := ⟨_, rfl⟩
        rw [← hx, ← hy] at HSX hb
        rw [← hx]
        rw [← hy] at HJ
        clear hx hy
        have hb2 : (x : Int) + (y : Int) ≤ 10000000 := by omega
        have hx0 : (0 : Int) ≤ (x : Int) := by omega
        have hy0 : (0 : Int) ≤ (y : Int) := by omega
        go_wp2_with fail
        refine (HJ.out _).mono ?_
        rintro e w4 ⟨rfl, hb4⟩
        have HB4 := Hid.mk' (below_chain HB.out hb4)
        clear hb4
        go_wp2_with fail
        refine ⟨⟨j + 1, h1, by go_num, ?_, HB4.out⟩, by simp [intOf]; omega⟩
        rw [HSX.out]
        go_num
      · obtain rfl : j = n + 1 := by omega
        have hjn : ¬ (((n + 1 : Nat) : Int) ≤ (n : Int)) := by omega
        go_wp2_with fail
        go_ret
        exact ⟨by rw [HE.out]; rfl, HB.out⟩

set_option maxRecDepth 100000 in
set_option maxHeartbeats 2000000 in
theorem TypesOf_any : ∀ (k n : Nat) (w : World), k < 6 → n < 21 → Calls Tryd.prog 14 #[.int .i64 n, .int .i64 ((k : Int) + 1)] w fun e w' => ∃ v, e = .returned v ∧ (∃ vs, LolOwn w.heap.size w.heap.size w' v (typT k n) vs) ∧ Below w.heap.size w w'
  | 0, n, w, _, hn => by
    go_enter Tryd.func14, Tryd.ntmps14
    go_wp2_with fail
    go_ret
    refine ⟨_, rfl, ⟨[.slice (some ⟨w.heap.size, 0, none⟩) 1 1], own_built (w := (w.alloc _).alloc _) (base := w.heap.size) (g := w.heap.size + 1) (t := 35) (cs := #[.slice (some ⟨w.heap.size, 0, none⟩) 1 1]) (by omega) (two_heap1 _ _ _) (by simp), fun i r hr => ?_⟩, ((Below.refl _ _).alloc (Nat.le_refl _) _).alloc (by simp) _⟩
    obtain ⟨rfl, rfl⟩ : i = 0 ∧ r = [(n : Int)] := by
      rcases i with _ | i
      · exact ⟨rfl, by simpa [typT] using hr.symm⟩
      · simp [typT] at hr
    exact ⟨_, rfl, own_built (w := (w.alloc _).alloc _) (base := w.heap.size) (g := w.heap.size) (t := 3) (cs := #[.int .i64 (n : Int)]) (Nat.le_refl _) (two_heap0 _ _ _) (by simp)⟩
  | k + 1, n, w, hk, hn => by
    obtain ⟨i0, hi, hz0, hz1, hz2⟩ := info_parts Tryd.infoInts
    have HINF : Hid (Tryd.prog.info? 35 = some i0 ∧ i0.zero = some (.slice none 0 0) ∧ i0.size = 1 ∧ i0.bytes = 24) := ⟨hi, hz0, hz1, hz2⟩
    clear hi hz0 hz1 hz2
    obtain ⟨i1, hi, hz0, hz1, hz2⟩ := info_parts Tryd.infoInt
    have HINI : Hid (Tryd.prog.info? 3 = some i1 ∧ i1.zero = some (.int .i64 0) ∧ i1.size = 1 ∧ i1.bytes = 8) := ⟨hi, hz0, hz1, hz2⟩
    clear hi hz0 hz1 hz2
    have HI := Hid.mk' (fun (m : Nat) (W : World) (hm : m < 21) => TypesOf_any k m W (by omega) hm)
    have HC := Hid.mk' (cntT_small hk hn)
    have HE : Hid (cntT (k + 1) n = cntS (fun i => cntT k (n - i)) (n + 1)) := rfl
    have HW := Hid.mk' (fun (m : Nat) r hr => typT_width k m r hr)
    have hn0 : (0 : Int) ≤ (n : Int) := by omega
    have hn6 : (n : Int) < 21 := by omega
    rw [show (((k + 1 : Nat) : Int) + 1) = (k : Int) + 1 + 1 by omega]
    obtain ⟨K, hK⟩ : ∃ K : Int, K = (k : Int) + 1 + 1 := ⟨_, rfl⟩
    rw [← hK]
    rw [show (k : Int) + 1 = K - 1 by omega] at HI
    have hK2 : 2 ≤ K := by omega
    have hK6 : K ≤ 6 := by omega
    have hKb : (K == 1) = false := by simp; omega
    clear hK
    go_enter Tryd.func14, Tryd.ntmps14
    go_wp2_with fail
    go_loopw [5, 6] (fun u i wr => ∃ (j : Nat) (vs : List Value), j ≤ n + 1 ∧ i = .int .i64 j ∧ Hid (LolOwn w.heap.size w.heap.size wr u (typS (fun i => typT k (n - i)) j) vs) ∧ Hid (Below w.heap.size w wr)) (fun _ i _ => n + 1 - (intOf i).toNat)
    case atStart => exact ⟨0, [], Nat.zero_le _, rfl, LolOwn.nil _ _ _, Below.refl _ _⟩
    case round =>
      obtain ⟨j, vs, hj, rfl, HO, HB⟩ := hrel
      have hj0 : (0 : Int) ≤ (j : Int) := by omega
      rcases Nat.lt_or_ge j (n + 1) with h1 | h1
      · have hjn : (j : Int) ≤ (n : Int) := by omega
        have HJ := Hid.mk' (fun W => HI.out (n - j) W (by omega))
        have HB2 : Hid ((typS (fun i => typT k (n - i)) j).length + (typT k (n - j)).length ≤ 10000000) := by
          have h2 : (typS (fun i => typT k (n - i)) (j + 1)).length ≤ 10000000 := by
            rw [typS_length]
            have h3 := cntS_le (fun i => cntT k (n - i)) (show j + 1 ≤ n + 1 from h1)
            have h4 := HC.out
            rw [HE.out] at h4
            rw [cntS_congr (g := fun i => cntT k (n - i)) (fun i _ => typT_length k (n - i))]
            omega
          show _ ≤ _
          simpa [typS] using h2
        rw [show ((n - j : Nat) : Int) = (n : Int) - (j : Int) by omega] at HJ
        have HWJ := Hid.mk' (HW.out (n - j))
        have HFIN : Hid (typS (fun i => typT k (n - i)) (j + 1) = typS (fun i => typT k (n - i)) j ++ (typT k (n - j)).map (fun r => (j : Int) :: r)) := rfl
        obtain ⟨L0, hL0⟩ : ∃ L0, L0 = typS (fun i => typT k (n - i)) j := ⟨_, rfl⟩
        obtain ⟨l, hl⟩ : ∃ l, l = typT k (n - j) := ⟨_, rfl⟩
        rw [← hL0] at HO HB2 HFIN
        rw [← hl] at HJ HWJ HB2 HFIN
        clear hL0 hl
        obtain ⟨au, cu, rfl⟩ := HO.out.form
        go_wp2_with fail
        refine (HJ.out _).mono ?_
        rintro e w4 ⟨v4, rfl, ⟨vs4, hl4⟩, hb4⟩
        have HOW : Hid (∀ g, (Value.slice au L0.length cu).ownBlock = some g → g < wr.heap.size ∨ w4.heap.size ≤ g) := fun g hg => Or.inl (by
          rcases HO.out.1.2 with ⟨e, _⟩ | ⟨g', cap', cur', e, _, hh, _⟩
          · rw [e] at hg; cases hg
          · rw [e] at hg
            obtain rfl : g' = g := by simpa [Value.ownBlock] using hg
            exact heap_lt hh)
        have HZ4 := Hid.mk' hb4.size
        have HO4 := Hid.mk' (HO.out.later hb4)
        have HB4 := Hid.mk' (below_chain HB.out hb4)
        have HL4 := Hid.mk' hl4
        obtain ⟨a4, c4, rfl⟩ := hl4.form
        clear hl4
        generalize wr.heap.size = B3 at *
        clear hb4 HO HB HJ
        go_wp2_with fail
        go_loopw [5, 8, 9] (fun u x _ wr => ∃ (m : Nat) (vs : List Value), m ≤ l.length ∧ x = .int .i64 m ∧ Hid (LolOwn w.heap.size w.heap.size wr u (L0 ++ (l.take m).map (fun r => (j : Int) :: r)) vs) ∧ Hid (∀ k, B3 ≤ k → k < w4.heap.size → wr.heap[k]? = w4.heap[k]?) ∧ Hid (∀ g, u.ownBlock = some g → g < B3 ∨ w4.heap.size ≤ g) ∧ Hid (w4.heap.size ≤ wr.heap.size) ∧ Hid (Below w.heap.size w wr)) (fun _ x _ _ => l.length - (intOf x).toNat)
        case atStart => exact ⟨0, vs, Nat.zero_le _, rfl, by show LolOwn _ _ _ _ _ _; simpa using HO4.out, fun k _ _ => rfl, HOW, Nat.le_refl _, HB4.out⟩
        case round =>
          clear HO4 HOW HB4
          obtain ⟨m, vs, hm, rfl, HO, HK, HOW, HZ, HB⟩ := hrel
          rcases Nat.lt_or_ge m l.length with h2 | h2
          · have hmI : (m : Int) < (l.length : Int) := by omega
            have hm0 : (0 : Int) ≤ (m : Int) := by omega
            have hll : (l.length : Int) ≤ 10000000 := by have := HB2.out; omega
            obtain ⟨_, _, e1, g1⟩ := (HL4.out.keep HK.out).lol
            obtain ⟨rfl, rfl⟩ : a4 = _ ∧ c4 = _ := by simpa using e1
            obtain ⟨b, o, x, rfl, c1, n1⟩ := g1 m _ (List.getElem?_eq_getElem h2)
            have HTK : Hid (l.take (m + 1) = l.take m ++ [l[m]]) := by show _ = _; rw [List.take_add_one, List.getElem?_eq_getElem h2]; rfl
            have hw := HWJ.out _ (List.getElem_mem h2)
            generalize l[m] = r at *
            rcases n1 with ⟨_, _, _, h0⟩ | ⟨b', o', q', rfl, hr0, hrow⟩
            · omega
            · have HR := Hid.mk' (fun (W : World) (hb : Below wr.heap.size wr W) => RowAt.later hrow hb)
              obtain ⟨au, cu, hu⟩ := HO.out.form
              subst hu
              have HLN : Hid ((L0 ++ (l.take m).map (fun r => (j : Int) :: r)).length ≤ 10000000) := by
                show _ ≤ _
                have := HB2.out
                simp only [List.length_append, List.length_map, List.length_take]
                omega
              obtain ⟨L, hL⟩ : ∃ L, L = L0 ++ (l.take m).map (fun r => (j : Int) :: r) := ⟨_, rfl⟩
              rw [← hL] at HO HLN ⊢
              have HLE := Hid.mk' hL
              clear hL e1 g1 hrow
              have hwr : r.length ≤ 6 := by omega
              clear hw
              have HBR := Hid.mk' HB.out.size
              have HCL : Hid ((cellL r).length = r.length * 1) := by show _ = _; rw [cellL_length, Nat.mul_one]
              have HCI : Hid (∀ u, u ∈ cellL r → u.oneCell' = true) := fun u hu => by rw [← numCells_list] at hu; obtain ⟨x, rfl⟩ := numCells_ints _ _ u hu; rfl
              go_wp2_with (at_builtin; go_must (first
                | (have hz6 := HR6; clear hz6; refine wpList_append_lies _ rfl _ _ _ rfl w.heap.size 35 i0 _ 1 24 Tryd.underlying28 HINF.out.1 HINF.out.2.1 HINF.out.2.2.1 HINF.out.2.2.2 rfl (by omega) (.slice au L.length cu) _ _ rfl (HO6.out.1.alloc _) ⟨w6.heap.size, 0, none⟩ 1 1 [.slice (some ⟨g6, 0, none⟩) (1 + r.length) cap6] rfl rfl (one_new _ _ _) (by simp [Value.oneCell']) (by omega) (by have := HLN.out; unfold maxLen; omega) (by have := HLN.out; omega) (by have := HZ6.out; simp; omega) _ rfl ?_; intro g7 cap7 w7 hown7 hgrow7 hat7 hlt7; have HO7 := Hid.mk' hown7; have HG7 := Hid.mk' hgrow7; have HA7 := Hid.mk' hat7; clear hown7 hgrow7 hat7)
                | (have hz5 := HR5; clear hz5; refine wpList_append_lies _ rfl _ _ _ rfl wr.heap.size 3 i1 _ 1 8 Tryd.underlying35 HINI.out.1 HINI.out.2.1 HINI.out.2.2.1 HINI.out.2.2.2 rfl (by omega) (.slice (some ⟨g5, 0, none⟩) 1 cap5) _ _ rfl HR5.out ⟨b', o', none⟩ r.length q' (cellL r) rfl HCL.out (fun j u hu => numCells_news (HR.out _ HB5.out) j u (by rw [numCells_list]; exact hu)) HCI.out hr0 (by unfold maxLen; omega) (by omega) (by have := HB5.out.size; omega) _ rfl ?_; intro g6 cap6 w6 hown6 hgrow6 hat6 hlt6; have HR6 := Hid.mk' hown6; have HB6 := Hid.mk' (HB5.out.grown hgrow6 HB5.out.size (fun k e => (HR5.out.lt k e).1)); have HZ6 := Hid.mk' (Nat.le_trans HBR.out HB6.out.size); have HO6 := Hid.mk' (HO.out.later HB6.out); clear hown6 hgrow6 hat6 hlt6)
                | (refine wpList_append_lies _ rfl _ _ _ rfl wr.heap.size 3 i1 _ 1 8 Tryd.underlying35 HINI.out.1 HINI.out.2.1 HINI.out.2.2.1 HINI.out.2.2.2 rfl (by omega) (.slice none 0 0) 0 [] rfl ⟨rfl, Or.inl ⟨rfl, rfl⟩⟩ ⟨wr.heap.size, 0, none⟩ 1 1 [.int .i64 (j : Int)] rfl rfl (one_new _ _ _) (by simp [Value.oneCell']) (by omega) (by unfold maxLen; omega) (by omega) (by simp) _ rfl ?_; intro g5 cap5 w5 hown5 hgrow5 hat5 hlt5; have HR5 : Hid (w5.ownsRow wr.heap.size 3 1 (.slice (some ⟨g5, 0, none⟩) 1 cap5) 1 [.int .i64 (j : Int)]) := hown5; have HB5 := Hid.mk' (((Below.refl wr.heap.size wr).alloc (Nat.le_refl _) _).grown hgrow5 (by simp) (fun k e => by cases e)); have c5 : w5.cell? ⟨b, o + m, none⟩ = some (.slice (some ⟨b', o', none⟩) r.length q') := (HB5.out.cell (cell_lt c1)).trans c1; clear hown5 hgrow5 hat5 hlt5)))
              have HW7 : Hid (∀ k, B3 ≤ k → k < w4.heap.size → w7.heap[k]? = w4.heap[k]?) := fun k e1 e2 => by
                have e3 : k < w6.heap.size := Nat.lt_of_lt_of_le e2 (Nat.le_trans HZ.out HB6.out.size)
                rw [HG7.out.block k (Nat.lt_of_lt_of_le e3 (by simp)) (fun e => ?_)]
                · have e4 : (w6.alloc (.cells #[.slice (some ⟨g6, 0, none⟩) (1 + r.length) cap6] 35)).heap[k]? = w6.heap[k]? := by
                    show (w6.heap.push _)[k]? = _
                    rw [Array.getElem?_push, if_neg (by omega)]
                  rw [e4, HB6.out.block k (Nat.lt_of_lt_of_le e2 HZ.out), HK.out k e1 e2]
                · have := HOW.out k (by rw [← HLE.out]; exact e.symm)
                  omega
              refine ⟨⟨m + 1, vs ++ [.slice (some ⟨g6, 0, none⟩) (1 + r.length) cap6], h2, by go_num, ?_, HW7, fun g hg => ?_, ?_, ?_⟩, by simp [intOf]; omega⟩
              · show LolOwn _ _ _ _ _ _
                have e5 : L0 ++ (l.take (m + 1)).map (fun r => (j : Int) :: r) = L ++ [(j : Int) :: r] := by rw [HTK.out, HLE.out]; simp
                rw [e5]
                refine (HO6.out.later ((Below.refl _ _).alloc (Nat.le_refl _) _)).push (u := .slice (some ⟨g6, 0, none⟩) (1 + r.length) cap6) ?_ HG7.out HO7.out
                have e6 := own_past (HR6.out.mono HBR.out) ((Below.refl w6.heap.size w6).alloc (Nat.le_refl _) (.cells #[.slice (some ⟨g6, 0, none⟩) (1 + r.length) cap6] 35))
                rw [List.length_cons, Nat.add_comm r.length 1]
                exact e6
              · obtain rfl : g7 = g := by simpa [Value.ownBlock] using hg
                rcases HA7.out with e | e
                · exact HOW.out g7 (by rw [← HLE.out]; exact e)
                · refine Or.inr ?_
                  rw [e]
                  exact Nat.le_trans HZ.out (Nat.le_trans HB6.out.size (by simp))
              · exact Nat.le_trans HZ.out (Nat.le_trans HB6.out.size (Nat.le_trans (by simp) HG7.out.size))
              · exact below_chain HB.out HB6.out |>.trans (((Below.refl w.heap.size w6).alloc (Nat.le_trans HBR.out HB6.out.size) _).grown HG7.out (by have := HZ6.out; simp; omega) (fun k e => ((HO6.out.1.alloc (.cells #[] 3)).lt k e).1))
          · obtain rfl : m = l.length := by omega
            have hmI : ¬ ((l.length : Int) < (l.length : Int)) := by omega
            go_wp2_with fail
            refine ⟨⟨j + 1, vs, h1, by go_num, ?_, HB.out⟩, by simp [intOf]; omega⟩
            show LolOwn _ _ _ _ _ _
            rw [HFIN.out]
            simpa using HO.out
      · obtain rfl : j = n + 1 := by omega
        have hjn : ¬ (((n + 1 : Nat) : Int) ≤ (n : Int)) := by omega
        obtain ⟨au, cu, rfl⟩ := HO.out.form
        go_wp2_with fail
        go_ret
        exact ⟨_, rfl, ⟨_, HO.out⟩, HB.out⟩

end Go.Proofs.YteicjedmingplaaDoor
