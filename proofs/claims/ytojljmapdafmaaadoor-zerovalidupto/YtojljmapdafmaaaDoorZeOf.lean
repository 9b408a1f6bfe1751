/- zero.Of: the graph of a channel. -/
import Derived.Test.YtojljmapdafmaaaDoorZeJoin
import Derived.Test.YtojljmapdafmaaaDoorCnVal
import Derived.BigQuiet
namespace Go.Proofs.YtojljmapdafmaaaDoor
open Go.RowKit

/-- May one symbol, among the first ones, come of both rows? -/
def meetB (x y : Nat → Int) : Nat → Bool
  | 0 => false
  | j + 1 => meetB x y j || (decide (0 < x j) && decide (0 < y j))
theorem meetB_more {x y : Nat → Int} {j : Nat} (h : meetB x y j = true) : ∀ {n : Nat}, j ≤ n → meetB x y n = true
  | 0, hj => by
    obtain rfl : j = 0 := by omega
    exact h
  | n + 1, hj => by
    rcases Nat.eq_or_lt_of_le hj with rfl | h1
    · exact h
    · rw [meetB, meetB_more h (n := n) (by omega), Bool.true_or]

set_option maxRecDepth 100000 in
set_option maxHeartbeats 4000000 in
theorem meet_any (u v : Value) (n : Nat) (x y : Nat → Int) (w : World) (hu : NumsAt w u n x) (hv : NumsAt w v n y) (hn0 : 0 < n) (hn : n ≤ 1000) :
    Calls Tryd.prog 31 #[u, v] w fun e w' => e = .returned (.bool (meetB x y n)) ∧ w' = w := by
  obtain ⟨b, o, c, rfl, hx⟩ : ∃ b o c, u = .slice (some ⟨b, o, none⟩) n c ∧ RowAt w b o n x := by
    rcases hu with ⟨_, _, _, h⟩ | ⟨b, o, c, h1, _, h2⟩
    · omega
    · exact ⟨b, o, c, h1, h2⟩
  obtain ⟨b', o', c', rfl, hy⟩ : ∃ b o c, v = .slice (some ⟨b, o, none⟩) n c ∧ RowAt w b o n y := by
    rcases hv with ⟨_, _, _, h⟩ | ⟨b, o, c, h1, _, h2⟩
    · omega
    · exact ⟨b, o, c, h1, h2⟩
  have HX := Hid.mk' hx
  have HY := Hid.mk' hy
  have hnI : (n : Int) ≤ 1000 := by omega
  clear hu hv hx hy
  go_enter Tryd.func31, Tryd.ntmps31
  go_wp2_with fail
  go_loop [9] (fun i => ∃ k : Nat, k ≤ n ∧ i = .int .i64 k ∧ Hid (meetB x y k = false)) (fun i => n - (intOf i).toNat)
  case atStart => exact ⟨0, Nat.zero_le _, rfl, rfl⟩
  case round =>
    obtain ⟨k, hk, rfl, HK⟩ := hrel
    have hk0 : (0 : Int) ≤ (k : Int) := by omega
    rcases Nat.lt_or_ge k n with h1 | h1
    · have hkn : (k : Int) < (n : Int) := by omega
      have ex := HX.out k h1
      have ey := HY.out k h1
      have HN : Hid (meetB x y (k + 1) = (decide (0 < x k) && decide (0 < y k))) := by show _ = _; rw [meetB, HK.out, Bool.false_or]
      by_cases h2 : 0 < x k
      · have d2 : decide (0 < x k) = true := decide_eq_true h2
        by_cases h3 : 0 < y k
        · have d3 : decide (0 < y k) = true := decide_eq_true h3
          have HF := Hid.mk' (meetB_more (x := x) (y := y) (j := k + 1) (by rw [HN.out, d2, d3]; rfl) h1)
          go_wp2_with fail
          go_ret
          exact ⟨by rw [HF.out]; rfl, rfl⟩
        · have d3 : decide (0 < y k) = false := decide_eq_false h3
          have HF : Hid (meetB x y (k + 1) = false) := by show _ = _; rw [HN.out, d2, d3]; rfl
          go_wp2_with fail
          exact ⟨⟨k + 1, h1, by go_num, HF⟩, by simp [intOf]; omega⟩
      · have d2 : decide (0 < x k) = false := decide_eq_false h2
        have HF : Hid (meetB x y (k + 1) = false) := by show _ = _; rw [HN.out, d2]; rfl
        go_wp2_with fail
        exact ⟨⟨k + 1, h1, by go_num, HF⟩, by simp [intOf]; omega⟩
    · obtain rfl : k = n := by omega
      go_wp2_with fail
      go_ret
      exact ⟨by rw [HK.out]; rfl, rfl⟩

set_option maxRecDepth 100000 in
set_option maxHeartbeats 4000000 in
theorem OfF_any (Bc R C : Nat) (v : Value) (vs : Nat → Value) (ns : Nat → Nat) (zs : Nat → Nat → Int) (i k : Nat) (W : World) (hC : 0 < C) (hC2 : C ≤ 1000) (hns : ∀ i, i < R → ns i = C) (hik : i < k) (hk : k < R)
    (cb : W.cell? ⟨Bc, 0, none⟩ = some v) (hT : TabAt W v R vs ns zs) :
    Calls Tryd.prog 30 (#[.int .i64 (i : Nat), .int .i64 (k : Nat)] ++ #[.pointer (some ⟨Bc, 0, none⟩)]) W fun e W' => e = .returned (.bool (meetB (zs i) (zs k) C)) ∧ Below W.heap.size W W' := by
  obtain ⟨b, o, c, rfl, hr⟩ : ∃ b o c, v = .slice (some ⟨b, o, none⟩) R c ∧ ∀ i, i < R → W.cell? ⟨b, o + i, none⟩ = some (vs i) ∧ NumsAt W (vs i) (ns i) (zs i) := by
    rcases hT with ⟨_, _, _, h1⟩ | ⟨b, o, c, h1, _, h2⟩
    · omega
    · exact ⟨b, o, c, h1, h2⟩
  obtain ⟨ei, hi⟩ := hr i (by omega)
  obtain ⟨ek, hk'⟩ := hr k hk
  rw [hns i (by omega)] at hi
  rw [hns k hk] at hk'
  have HM : Hid (∀ m, Calls Tryd.prog 31 #[vs i, vs k] (W.drewN m) fun e w' => e = .returned (.bool (meetB (zs i) (zs k) C)) ∧ w' = W.drewN m) := fun m => meet_any _ _ C (zs i) (zs k) _ (hi.later (below_drewN (Below.refl _ _) m)) (hk'.later (below_drewN (Below.refl _ _) m)) hC hC2
  have hMM : Calls Tryd.prog 31 #[vs i, vs k] W fun e w' => e = .returned (.bool (meetB (zs i) (zs k) C)) ∧ w' = W := meet_any _ _ C (zs i) (zs k) _ hi hk' hC hC2
  obtain ⟨a1, k1, e1⟩ := hi.form
  obtain ⟨a2, k2, e2⟩ := hk'.form
  rw [e1] at ei HM hMM
  rw [e2] at ek HM hMM
  have HMW := Hid.mk' hMM
  have p1 : (0 : Int) ≤ (i : Int) := by omega
  have p2 : (i : Int) < (R : Int) := by omega
  have p3 : (0 : Int) ≤ (k : Int) := by omega
  have p4 : (k : Int) < (R : Int) := by omega
  clear hi hk' hr hns e1 e2 hT hMM
  generalize meetB (zs i) (zs k) C = M at *
  go_enter Tryd.func30, Tryd.ntmps30
  go_wp2_with fail
  go_region_held3 (fun X => X.cell? ⟨Bc, 0, none⟩ = some (.slice (some ⟨b, o, none⟩) R c) ∧ X.cell? ⟨b, o + i, none⟩ = some (.slice a1 C k1) ∧ X.cell? ⟨b, o + k, none⟩ = some (.slice a2 C k2))
    (first | exact ⟨cb, ei, ek⟩)
    (first | (go_at_call 31; refine (HM.out 1).mono ?_; rintro e w5 ⟨rfl, hw5⟩; rw [hw5]; clear hw5))
  go_wp2_with fail
  go_ret
  exact ⟨rfl, below_drewN (Below.refl _ _) 1⟩

def ofN (R : Nat) (ns : Nat → Nat) (zs : Nat → Nat → Int) : Nat := if chanErr R ns zs = 0 then R else 0
def ofE (R : Nat) (ns : Nat → Nat) (zs : Nat → Nat → Int) : List (Nat × Nat) := if chanErr R ns zs = 0 then edTo (fun i k => meetB (zs i) (zs k) (ns 0)) R R else []

set_option maxRecDepth 100000 in
set_option maxHeartbeats 4000000 in
theorem Of_any (a : Nat → Addr) (v : Value) (R : Nat) (vs : Nat → Value) (ns : Nat → Nat) (zs : Nat → Nat → Int) (w : World) (hE : Errs w a) (hT : TabAt w v R vs ns zs) (hR : R ≤ 40) (hns : ∀ i, i < R → ns i ≤ 400) :
    Calls Tryd.prog 16 #[v] w fun e w' => ∃ u, e = .returned (.tuple #[.agg #[.int .i64 (ofN R ns zs : Nat), u], errV a (chanErr R ns zs)]) ∧ w'.ownsRow w.heap.size 51 2 u (ofE R ns zs).length (pairCells (ofE R ns zs)) ∧ Below w.heap.size w w' := by
  obtain ⟨ad, cap, rfl⟩ := hT.form
  obtain ⟨w1, hw1⟩ : ∃ w1, w1 = (w.alloc (.cells #[.slice ad R cap] 25)).alloc (.cells #[.int .i64 0, .slice none 0 0] 33) := ⟨_, rfl⟩
  have hb1 : Below w.heap.size w w1 := by rw [hw1]; exact ((Below.refl _ _).alloc (Nat.le_refl _) _).alloc (by simp) _
  have hc0 : w1.cell? ⟨w.heap.size, 0, none⟩ = some (.slice ad R cap) := by rw [hw1]; go_simp
  have hr0 : w1.cell? ⟨w.heap.size + 1, 0, none⟩ = some (.int .i64 0) := by rw [hw1]; go_simp
  have hr1 : w1.cell? ⟨w.heap.size + 1, 1, none⟩ = some (.slice none 0 0) := by rw [hw1]; go_simp
  have hf0 : w1.frozen? ⟨w.heap.size + 1, 0, none⟩ = false := by rw [hw1]; go_simp
  have hf1 : w1.frozen? ⟨w.heap.size + 1, 1, none⟩ = false := by rw [hw1]; go_simp
  have HRES : Hid (∀ W, Below w1.heap.size w1 W → W.cell? ⟨w.heap.size + 1, 0, none⟩ = some (.int .i64 0) ∧ W.cell? ⟨w.heap.size + 1, 1, none⟩ = some (.slice none 0 0) ∧ W.frozen? ⟨w.heap.size + 1, 0, none⟩ = false ∧ W.frozen? ⟨w.heap.size + 1, 1, none⟩ = false) := fun W hb => ⟨by rw [hb.cell (cell_lt hr0)]; exact hr0, by rw [hb.cell (cell_lt hr1)]; exact hr1, by rw [hb.frozen (p := ⟨w.heap.size + 1, 0, none⟩) (cell_lt hr0)]; exact hf0, by rw [hb.frozen (p := ⟨w.heap.size + 1, 1, none⟩) (cell_lt hr1)]; exact hf1⟩
  have HV := Hid.mk' (chanValid_any a _ R vs ns zs w1 (hE.below hb1) (hT.later hb1) (by omega) (fun i hi => by have := hns i hi; omega))
  have HW1 := Hid.mk' hw1
  have HB1 := Hid.mk' hb1
  have HSZ : Hid (w1.heap.size = w.heap.size + 1 + 1) := by show _ = _; rw [hw1]; simp
  by_cases h0 : chanErr R ns zs = 0
  · obtain ⟨hR0, hR16, hC0, hC16, hev, _, _⟩ := chanErr_ok h0
    have eN : ofN R ns zs = R := if_pos h0
    have eE : ofE R ns zs = edTo (fun i k => meetB (zs i) (zs k) (ns 0)) R R := if_pos h0
    have HJ := Hid.mk' (joinedBy_any 30 #[.pointer (some ⟨w.heap.size, 0, none⟩)] R (fun i k => meetB (zs i) (zs k) (ns 0)) w1 hR16 (enters_of Tryd.func30 (by kernel_rfl) rfl) (fun i k W hik hk hb => OfF_any w.heap.size R (ns 0) (.slice ad R cap) vs ns zs i k W hC0 (by omega) hev hik hk (by rw [hb.cell (cell_lt hc0)]; exact hc0) ((hT.later hb1).later hb)))
    rw [h0, errV_zero, eN, eE]
    rw [h0, errV_zero] at HV
    have hRI : (R : Int) ≤ 16 := by omega
    clear hE hT hb1 hw1 h0 hev eN eE hf0 hf1 hr0 hr1
    generalize edTo (fun i k => meetB (zs i) (zs k) (ns 0)) R R = E at *
    go_enter Tryd.func16, Tryd.ntmps16
    go_upto_region 1 with fail
    rw [← HW1.out]
    go_wp2_with fail
    refine HV.out.mono ?_
    rintro e w2 ⟨rfl, hw2⟩
    rw [hw2]
    clear hw2 HV
    go_wp2_with fail
    refine HJ.out.mono ?_
    rintro e w3 ⟨u, rfl, h3, hb3⟩
    obtain ⟨r0, r1, f0, f1⟩ := HRES.out _ hb3
    have HO := Hid.mk' h3
    have HB3 := Hid.mk' (HB1.out.trans (hb3.mono HB1.out.size))
    obtain ⟨ao, co, rfl, _⟩ := row_shape2 h3
    clear h3 hb3 HJ hc0 HRES
    go_wp2_with fail
    refine bodyPost_ret (v := .tuple #[.agg #[.int .i64 R, .slice ao E.length co], .nilIface]) (by simp [results, Tryd.results16, go_sem, r0, r1]) rfl ⟨_, rfl, ?_, ?_⟩
    · have g1 := ownsRow_setCell_below HO.out (a := ⟨w.heap.size + 1, 0, none⟩) (by have := HSZ.out; show w.heap.size + 1 < _; omega) (.int .i64 (R : Int))
      have g2 := ownsRow_setCell_below g1 (a := ⟨w.heap.size + 1, 1, none⟩) (by have := HSZ.out; show w.heap.size + 1 < _; omega) (.slice ao E.length co)
      exact g2.mono (by have := HSZ.out; omega)
    · exact (HB3.out.setCell (Nat.le_succ _) _).setCell (Nat.le_succ _) _
  · have eN : ofN R ns zs = 0 := if_neg h0
    have eE : ofE R ns zs = [] := if_neg h0
    have hR := errV_pos a h0
    rw [eN, eE, hR]
    rw [hR] at HV
    generalize a (chanErr R ns zs - 1) = A at *
    clear hE hT hb1 hw1 h0 eN eE hR
    go_enter Tryd.func16, Tryd.ntmps16
    go_upto_region 1 with fail
    rw [← HW1.out]
    go_wp2_with fail
    refine HV.out.mono ?_
    rintro e w2 ⟨rfl, hw2⟩
    rw [hw2]
    clear hw2 HV
    go_wp2_with fail
    refine bodyPost_ret (v := .tuple #[.agg #[.int .i64 0, .slice none 0 0], .iface 118 (.pointer (some A))]) (by simp [results, Tryd.results16, go_sem, hr0, hr1]) rfl ⟨_, rfl, ⟨rfl, Or.inl ⟨rfl, rfl⟩⟩, ?_⟩
    exact (HB1.out.setCell (Nat.le_succ _) _).setCell (Nat.le_succ _) _
end Go.Proofs.YtojljmapdafmaaaDoor
