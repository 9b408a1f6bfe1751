/- zero.joinedBy: the edges that a function says. -/
import Derived.Test.YtojljmapdafmaaaDoorZeGr
import Derived.Test.YtojljmapdafmaaaDoorGrid
import Derived.Test.YtojljmapdafmaaaDoorTabCopy
import Derived.Deep.Onto
namespace Go.Proofs.YtojljmapdafmaaaDoor
open Go.RowKit

def edRow (J : Nat → Nat → Bool) (i : Nat) : Nat → List (Nat × Nat)
  | 0 => []
  | k + 1 => if i < k ∧ J i k = true then edRow J i k ++ [(i, k)] else edRow J i k
def edTo (J : Nat → Nat → Bool) (n : Nat) : Nat → List (Nat × Nat)
  | 0 => []
  | i + 1 => edTo J n i ++ edRow J i n
theorem edRow_low (J : Nat → Nat → Bool) (i : Nat) : ∀ k, k ≤ i + 1 → edRow J i k = []
  | 0, _ => rfl
  | k + 1, h => by rw [edRow, if_neg (by omega), edRow_low J i k (by omega)]
theorem edRow_length (J : Nat → Nat → Bool) (i : Nat) : ∀ k, (edRow J i k).length ≤ k
  | 0 => Nat.le_refl _
  | k + 1 => by
    have := edRow_length J i k
    rw [edRow]
    split
    · rw [List.length_append]; simp; omega
    · omega
theorem edTo_length (J : Nat → Nat → Bool) (n : Nat) : ∀ i, (edTo J n i).length ≤ i * n
  | 0 => by simp [edTo]
  | i + 1 => by
    have h1 := edTo_length J n i
    have h2 := edRow_length J i n
    rw [edTo, List.length_append, Nat.succ_mul]
    omega
theorem edRow_congr {J J' : Nat → Nat → Bool} {i n : Nat} : ∀ k, k ≤ n → (∀ k, k < n → i < k → J i k = J' i k) → edRow J i k = edRow J' i k
  | 0, _, _ => rfl
  | k + 1, hk, h => by
    rw [edRow, edRow, edRow_congr k (by omega) h]
    by_cases h1 : i < k
    · rw [h k (by omega) h1]
    · rw [if_neg (by omega), if_neg (by omega)]
theorem edTo_congr {J J' : Nat → Nat → Bool} {n : Nat} : ∀ i, i ≤ n → (∀ i k, i < k → k < n → J i k = J' i k) → edTo J n i = edTo J' n i
  | 0, _, _ => rfl
  | i + 1, hi, h => by rw [edTo, edTo, edTo_congr i (by omega) h, edRow_congr n (Nat.le_refl _) (fun k hk hik => h i k hik hk)]
def pairCells (E : List (Nat × Nat)) : List Value := E.flatMap fun e => [.int .i64 (e.1 : Nat), .int .i64 (e.2 : Nat)]
theorem pairCells_snoc (E : List (Nat × Nat)) (i k : Nat) : pairCells (E ++ [(i, k)]) = pairCells E ++ [.int .i64 (i : Nat), .int .i64 (k : Nat)] := by simp [pairCells]
theorem pairCells_length : ∀ E : List (Nat × Nat), (pairCells E).length = E.length * 2
  | [] => rfl
  | e :: E => by
    have := pairCells_length E
    simp only [pairCells, List.flatMap_cons, List.length_append] at this ⊢
    simp only [List.length_cons, List.length_nil]
    omega
theorem pairCells_at : ∀ (E : List (Nat × Nat)) (i : Nat), i < E.length → (pairCells E)[i * 2]? = some (.int .i64 ((E.getD i (0, 0)).1 : Nat)) ∧ (pairCells E)[i * 2 + 1]? = some (.int .i64 ((E.getD i (0, 0)).2 : Nat))
  | [], i, h => by simp at h
  | e :: E, 0, _ => by simp [pairCells]
  | e :: E, i + 1, h => by
    have h1 := pairCells_at E i (by simpa using h)
    have e1 : pairCells (e :: E) = .int .i64 (e.1 : Nat) :: .int .i64 (e.2 : Nat) :: pairCells E := by simp [pairCells]
    rw [e1]
    have e2 : (i + 1) * 2 = i * 2 + 1 + 1 := by omega
    rw [e2]
    simpa using h1
theorem edAt_row {w : World} {base : Nat} {v : Value} {E : List (Nat × Nat)} (h : w.ownsRow base 51 2 v E.length (pairCells E)) : EdAt w v E.length (fun i => ((E.getD i (0, 0)).1 : Nat)) (fun i => ((E.getD i (0, 0)).2 : Nat)) := by
  obtain ⟨hl, hr⟩ := h
  rcases hr with ⟨rfl, h0⟩ | ⟨g, cap, cur, rfl, hg, hh, h1, h2, h3, h4⟩
  · exact ⟨none, 0, by rw [h0], Or.inl h0⟩
  · refine ⟨_, cap, rfl, Or.inr ⟨g, 0, rfl, fun i hi => ?_⟩⟩
    have e : ∀ j, j < E.length * 2 → w.cell? ⟨g, 0 + j, none⟩ = (pairCells E)[j]? := fun j hj => by
      rw [← h4, List.getElem?_take_of_lt hj]
      simp [World.cell?, hh]
    obtain ⟨g1, g2⟩ := pairCells_at E i hi
    refine ⟨by rw [e _ (by omega)]; exact g1, ?_⟩
    rw [Nat.add_assoc, e _ (by omega)]; exact g2
theorem two_newG (w : World) (x y : Value) (t : TypeId) (j : Nat) (u : Value) (h : [x, y][j]? = some u) : (w.alloc (.cells #[x, y] t)).cell? ((⟨w.heap.size, 0, none⟩ : Addr).add j) = some u := by
  rw [add_plain, World.cell?_alloc_at _ _ _ _ rfl]
  rw [Nat.zero_add]
  rcases j with _ | _ | j
  · simpa using h
  · simpa using h
  · simp at h

/-- The graph that grows: its box, the result's box, the edges so far. -/
structure JoAt (w W : World) (R G n : Nat) (ov : Value) (E : List (Nat × Nat)) : Prop where
  below : Below w.heap.size w W
  hR : w.heap.size ≤ R ∧ R < G
  r0 : W.cell? ⟨R, 0, none⟩ = some (.int .i64 0)
  r1 : W.cell? ⟨R, 1, none⟩ = some (.slice none 0 0)
  fr : W.frozen? ⟨R, 0, none⟩ = false ∧ W.frozen? ⟨R, 1, none⟩ = false
  g0 : W.cell? ⟨G, 0, none⟩ = some (.int .i64 n)
  g1 : W.cell? ⟨G, 1, none⟩ = some ov
  fg : W.frozen? ⟨G, 1, none⟩ = false
  own : W.ownsRow (G + 1) 51 2 ov E.length (pairCells E)
  lt : G < W.heap.size
theorem JoAt.later {w W W' : World} {R G n : Nat} {ov : Value} {E : List (Nat × Nat)} (h : JoAt w W R G n ov E) (hb : Below W.heap.size W W') : JoAt w W' R G n ov E :=
  have hlt : R < W.heap.size := Nat.lt_trans h.hR.2 h.lt
  ⟨h.below.trans (hb.mono h.below.size), h.hR, by rw [hb.cell (cell_lt h.r0)]; exact h.r0, by rw [hb.cell (cell_lt h.r1)]; exact h.r1, ⟨by rw [hb.frozen (p := ⟨R, 0, none⟩) hlt]; exact h.fr.1, by rw [hb.frozen (p := ⟨R, 1, none⟩) hlt]; exact h.fr.2⟩, by rw [hb.cell (cell_lt h.g0)]; exact h.g0, by rw [hb.cell (cell_lt h.g1)]; exact h.g1, by rw [hb.frozen (p := ⟨G, 1, none⟩) h.lt]; exact h.fg, own_past h.own hb, Nat.lt_of_lt_of_le h.lt hb.size⟩
theorem JoAt.push {w W W' : World} {R G n : Nat} {ov ov' : Value} {E E' : List (Nat × Nat)} {X : Obj} (h : JoAt w W R G n ov E) (hg : (W.alloc X).grownBy W' ov.ownBlock) (ho : W'.ownsRow (G + 1) 51 2 ov' E'.length (pairCells E')) : JoAt w (W'.setCell ⟨G, 1, none⟩ ov') R G n ov' E' := by
  have hlt : R < W.heap.size := Nat.lt_trans h.hR.2 h.lt
  have hal : Below W.heap.size W (W.alloc X) := (Below.refl _ _).alloc (Nat.le_refl _) _
  have far : ∀ b j, b < W.heap.size → b ≤ G → W'.cell? ⟨b, j, none⟩ = W.cell? ⟨b, j, none⟩ ∧ W'.frozen? ⟨b, j, none⟩ = W.frozen? ⟨b, j, none⟩ := fun b j hb hbG => by
    have hne : some b ≠ ov.ownBlock := fun e => by have := (h.own.lt b e.symm).1; omega
    refine ⟨?_, ?_⟩
    · rw [hg.cell_far ⟨b, j, none⟩ (by simp; omega) hne, hal.cell (p := ⟨b, j, none⟩) hb]
    · rw [hg.frozen_far ⟨b, j, none⟩ (by simp; omega) hne, hal.frozen (p := ⟨b, j, none⟩) hb]
  have cg : W'.cell? ⟨G, 1, none⟩ = some ov := by rw [(far G 1 h.lt (Nat.le_refl _)).1]; exact h.g1
  have put : ∀ b j, (b ≠ G ∨ j ≠ 1) → (W'.setCell ⟨G, 1, none⟩ ov').cell? ⟨b, j, none⟩ = W'.cell? ⟨b, j, none⟩ := fun b j hb => by
    rw [put_cell _ cg, if_neg (fun e => by have e1 := congrArg Addr.block e; have e2 := congrArg Addr.off e; simp at e1 e2; omega)]
  refine ⟨(h.below.alloc h.below.size _ |>.grown hg (by have := h.below.size; simp; omega) (fun k e => by have := (h.own.lt k e).1; have := h.hR; omega)).setCell (by have := h.hR; show w.heap.size ≤ G; omega) _, h.hR, ?_, ?_, ⟨?_, ?_⟩, ?_, ?_, ?_, ?_, ?_⟩
  · rw [put R 0 (Or.inl (by have := h.hR; omega)), (far R 0 hlt (by have := h.hR; omega)).1]; exact h.r0
  · rw [put R 1 (Or.inl (by have := h.hR; omega)), (far R 1 hlt (by have := h.hR; omega)).1]; exact h.r1
  · rw [World.frozen?_setCell, (far R 0 hlt (by have := h.hR; omega)).2]; exact h.fr.1
  · rw [World.frozen?_setCell, (far R 1 hlt (by have := h.hR; omega)).2]; exact h.fr.2
  · rw [put G 0 (Or.inr (by decide)), (far G 0 h.lt (Nat.le_refl _)).1]; exact h.g0
  · rw [put_cell _ cg, if_pos rfl]
  · rw [World.frozen?_setCell, (far G 1 h.lt (Nat.le_refl _)).2]; exact h.fg
  · exact ownsRow_setCell_below ho (a := ⟨G, 1, none⟩) (Nat.lt_succ_self _) _
  · rw [World.size_setCell]
    have := hg.size
    simp at this
    have := h.lt
    omega

theorem JoAt.pushAt {w W W' : World} {R G n : Nat} {ov : Value} {E : List (Nat × Nat)} {X : Obj} (h : JoAt w W R G n ov E) (hg : (W.alloc X).grownBy W' ov.ownBlock) : W'.cell? ⟨G, 1, none⟩ = some ov ∧ W'.frozen? ⟨G, 1, none⟩ = false := by
  have hal : Below W.heap.size W (W.alloc X) := (Below.refl _ _).alloc (Nat.le_refl _) _
  have hne : some G ≠ ov.ownBlock := fun e => by have := (h.own.lt G e.symm).1; omega
  have hl := h.lt
  refine ⟨?_, ?_⟩
  · rw [hg.cell_far ⟨G, 1, none⟩ (by simp; omega) hne, hal.cell (p := ⟨G, 1, none⟩) hl]; exact h.g1
  · rw [hg.frozen_far ⟨G, 1, none⟩ (by simp; omega) hne, hal.frozen (p := ⟨G, 1, none⟩) hl]; exact h.fg
theorem row_shape2 {w : World} {base : Nat} {t : TypeId} {v : Value} {n : Nat} {xs : List Value} (h : w.ownsRow base t 2 v n xs) : ∃ ao c, v = .slice ao n c ∧ n ≤ c := by
  obtain ⟨_, hr⟩ := h
  rcases hr with ⟨rfl, rfl⟩ | ⟨g, cap, cur, rfl, _, _, h1, _⟩
  · exact ⟨_, _, rfl, Nat.le_refl _⟩
  · exact ⟨_, _, rfl, h1⟩
set_option maxRecDepth 100000 in
set_option maxHeartbeats 4000000 in
theorem joinedBy_any (K : Nat) (cap : Array Value) (n : Nat) (J : Nat → Nat → Bool) (w : World) (hn : n ≤ 16)
    (hent : ∀ (args : Array Value) (w : World), (callFunc K args).run Tryd.prog w = .ok (.enter K args) w)
    (hJ : ∀ i k W, i < k → k < n → Below w.heap.size w W → Calls Tryd.prog K (#[.int .i64 (i : Nat), .int .i64 (k : Nat)] ++ cap) W fun e W' => e = .returned (.bool (J i k)) ∧ Below W.heap.size W W') :
    Calls Tryd.prog 29 #[.int .i64 n, .func (.func K) #[] cap] w fun e w' => ∃ v, e = .returned (.agg #[.int .i64 n, v]) ∧ w'.ownsRow w.heap.size 51 2 v (edTo J n n).length (pairCells (edTo J n n)) ∧ Below w.heap.size w w' := by
  obtain ⟨i0, hi, hi2⟩ := Option.map_eq_some_iff.1 Tryd.infoPair
  obtain ⟨hz, hsz, hby⟩ : i0.zero = some (.agg #[.int .i64 0, .int .i64 0]) ∧ i0.size = 2 ∧ i0.bytes = 16 := by simpa using hi2
  have HINF : Hid (Tryd.prog.info? 51 = some i0 ∧ i0.zero = some (.agg #[.int .i64 0, .int .i64 0]) ∧ i0.size = 2 ∧ i0.bytes = 16) := ⟨hi, hz, hsz, hby⟩
  clear hi hi2 hz hsz hby
  obtain ⟨W0, hW0⟩ : ∃ W0, W0 = (w.alloc (.cells #[.int .i64 0, .slice none 0 0] 33)).alloc (.cells #[.int .i64 n, .slice none 0 0] 33) := ⟨_, rfl⟩
  have h0 : JoAt w W0 w.heap.size (w.heap.size + 1) n (.slice none 0 0) [] := by
    rw [hW0]
    refine ⟨((Below.refl _ _).alloc (Nat.le_refl _) _).alloc (by simp) _, by omega, by go_simp, by go_simp, ⟨by go_simp, by go_simp⟩, by go_simp, by go_simp, by go_simp, ⟨rfl, Or.inl ⟨rfl, rfl⟩⟩, by simp⟩
  have H0 := Hid.mk' h0
  have HW0 := Hid.mk' hW0
  have HJ := Hid.mk' hJ
  have hnI : (n : Int) ≤ 16 := by omega
  clear h0 hW0 hJ
  go_enter Tryd.func29, Tryd.ntmps29
  go_upto_region 2 with fail
  rw [← HW0.out]
  go_wp2_with fail
  go_loopw [11] (fun iv wr => ∃ (i : Nat) (ov : Value), i ≤ n ∧ iv = .int .i64 i ∧ Hid (JoAt w wr w.heap.size (w.heap.size + 1) n ov (edTo J n i))) (fun iv _ => n - (intOf iv).toNat)
  case atStart => exact ⟨0, _, Nat.zero_le _, rfl, H0⟩
  case round =>
    clear H0 HW0
    obtain ⟨i, ov, hi, rfl, HO⟩ := hrel
    have hi0 : (0 : Int) ≤ (i : Int) := by omega
    rcases Nat.lt_or_ge i n with h1 | h1
    · have hin : (i : Int) < (n : Int) := by omega
      rename World => Wo
      go_wp2_with fail
      go_loopw [7] (fun kv wr => ∃ (k : Nat) (ov : Value), i < k ∧ k ≤ n ∧ kv = .int .i64 k ∧ Hid (JoAt w wr w.heap.size (w.heap.size + 1) n ov (edTo J n i ++ edRow J i k))) (fun kv _ => n - (intOf kv).toNat)
      case atStart =>
        refine ⟨i + 1, ov, Nat.lt_succ_self _, h1, by go_num, ?_⟩
        rw [edRow_low J i (i + 1) (Nat.le_refl _), List.append_nil]
        exact HO
      case round =>
        clear HO
        obtain ⟨k, ov, hik, hk, rfl, HO⟩ := hrel
        have hk0 : (0 : Int) ≤ (k : Int) := by omega
        rcases Nat.lt_or_ge k n with h2 | h2
        · have hkn : (k : Int) < (n : Int) := by omega
          have HCL := Hid.mk' (HJ.out i k wr hik h2 HO.out.below)
          have HNX : Hid (edRow J i (k + 1) = if J i k = true then edRow J i k ++ [(i, k)] else edRow J i k) := by
            show _ = _
            rw [edRow]
            by_cases hj : J i k = true
            · rw [if_pos ⟨hik, hj⟩, if_pos hj]
            · rw [if_neg (fun h => hj h.2), if_neg hj]
          have HLE : Hid ((edTo J n i ++ edRow J i k).length ≤ 1000) := by
            have a1 := edTo_length J n i
            have a2 := edRow_length J i k
            have a3 : i * n ≤ 16 * 16 := Nat.mul_le_mul (by omega) hn
            show _ ≤ _
            rw [List.length_append]
            omega
          go_wp2_with fail
          refine HCL.out.mono ?_
          rintro e w3 ⟨rfl, hb3⟩
          have HO3 := Hid.mk' (HO.out.later hb3)
          clear hb3 HCL HO
          cases hj : J i k
          · have e1 : edRow J i (k + 1) = edRow J i k := by have := HNX.out; rw [hj] at this; simpa using this
            rw [← e1] at HO3
            clear e1 hj HNX HLE
            go_wp2_with fail
            exact ⟨⟨k + 1, ov, by omega, h2, by go_num, HO3⟩, by simp [intOf]; omega⟩
          · have e1 : edTo J n i ++ edRow J i (k + 1) = (edTo J n i ++ edRow J i k) ++ [(i, k)] := by have := HNX.out; rw [hj, if_pos rfl] at this; rw [this, List.append_assoc]
            have HE1 := Hid.mk' e1
            have g1 := HO3.out.g1
            have fg := HO3.out.fg
            have hlt := HO3.out.lt
            have hne0 : w.heap.size + 1 < w3.heap.size := hlt
            clear e1 hj HNX
            generalize edTo J n i ++ edRow J i k = E at *
            have hle := HLE.out
            go_wp2_with (at_builtin; go_must (refine wpList_append_lies _ rfl _ _ _ rfl (w.heap.size + 1 + 1) 51 i0 _ 2 16 Tryd.underlying22 HINF.out.1 HINF.out.2.1 HINF.out.2.2.1 HINF.out.2.2.2 rfl (by omega) ov _ _ rfl (HO3.out.own.alloc _) ⟨w3.heap.size, 0, none⟩ 1 1 [.int .i64 (i : Int), .int .i64 (k : Int)] rfl rfl (two_newG _ _ _ _) (by simp [Value.oneCell']) (by omega) (by unfold maxLen; omega) (by omega) (by simp; omega) _ rfl ?_; intro g' cap' w4 hown4 hgrow4 hat4 hlt4; have HJ4 := Hid.mk' (HO3.out.push (E' := E ++ [(i, k)]) hgrow4 (by rw [pairCells_snoc, List.length_append]; exact hown4)); obtain ⟨q1, q2⟩ := HO3.out.pushAt hgrow4; clear hown4 hgrow4 hat4 hlt4))
            refine ⟨⟨k + 1, .slice (some ⟨g', 0, none⟩) (E.length + 1) cap', by omega, h2, by go_num, ?_⟩, by simp [intOf]; omega⟩
            rw [HE1.out]
            exact HJ4
        · obtain rfl : k = n := by omega
          go_wp2_with fail
          exact ⟨⟨i + 1, ov, h1, by go_num, HO⟩, by simp [intOf]; omega⟩
    · obtain rfl : i = n := by omega
      have g0 := HO.out.g0
      have g1 := HO.out.g1
      have r0 := HO.out.r0
      have r1 := HO.out.r1
      have f0 := HO.out.fr.1
      have f1 := HO.out.fr.2
      obtain ⟨ao, co, rfl, _⟩ := row_shape2 HO.out.own
      go_wp2_with fail
      refine bodyPost_ret (v := .agg #[.int .i64 i, .slice ao (edTo J i i).length co]) (by simp [results, Tryd.results29, go_sem, r0, r1]) rfl ⟨_, rfl, ?_, ?_⟩
      · have h1 := ownsRow_setCell_below HO.out.own (a := ⟨w.heap.size, 0, none⟩) (by show w.heap.size < _; omega) (.int .i64 (i : Int))
        have h2 := ownsRow_setCell_below h1 (a := ⟨w.heap.size, 1, none⟩) (by show w.heap.size < _; omega) (.slice ao (edTo J i i).length co)
        exact h2.mono (by omega)
      · exact (HO.out.below.setCell (Nat.le_refl _) _).setCell (Nat.le_refl _) _
end Go.Proofs.YtojljmapdafmaaaDoor
