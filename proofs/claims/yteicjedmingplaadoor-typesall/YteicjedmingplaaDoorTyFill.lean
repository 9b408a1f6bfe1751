/- types.All: the function that fills a type from a place on. -/
import Derived.Test.YteicjedmingplaaDoorTyBeg
import Derived.Test.YteicjedmingplaaDoorTyMath
import Derived.Test.YteicjedmingplaaDoorLaysC
namespace Go.Proofs.YteicjedmingplaaDoor
open Go.RowKit

theorem clone_any (b n c : Nat) (z : Nat → Int) (w : World) (h : RowAt w b 0 n z) (hn : n ≤ 1000) :
    Calls Tryd.prog 31 #[.slice (some ⟨b, 0, none⟩) n c] w fun e w' => ∃ v, e = .returned v ∧ w'.ownsRow w.heap.size 3 1 v n (cellL (rowL z n)) ∧ Below w.heap.size w w' := by
  refine (Any.slices_Clone_int (ρ := Tryd.cloneA_ren) Tryd.cloneA b 0 n c (rowL z n) w (by rw [rowL_length]; exact Nat.le_refl _) (by omega) (fun j hj => ?_)).mono ?_
  · rw [rowL_length] at hj
    rw [h j hj]
    simp [rowL, hj]
  · rintro e w' ⟨v', rfl, h1, _, h2⟩
    refine ⟨v', rfl, ?_, h2⟩
    rw [List.take_of_length_le (by rw [rowL_length]; exact Nat.le_refl _)] at h1
    exact h1

/-- What the closure sees: the boxes, the type under way, the list so far. -/
structure FilAt (w0 W : World) (B kb fb bt bo gt k : Nat) (ts : Nat → Int) (ov : Value) (L : List (List Int)) (vs : List Value) : Prop where
  below : Below w0.heap.size w0 W
  ge : w0.heap.size ≤ bt ∧ w0.heap.size ≤ bo ∧ w0.heap.size ≤ gt
  lt : kb < B ∧ fb < B ∧ bt < B ∧ bo < B ∧ gt < B ∧ B ≤ W.heap.size
  no : bo ≠ kb ∧ bo ≠ fb ∧ bo ≠ bt ∧ bo ≠ gt
  ng : gt ≠ kb ∧ gt ≠ fb ∧ gt ≠ bt
  ck : W.cell? ⟨kb, 0, none⟩ = some (.int .i64 (k : Int))
  cf : W.cell? ⟨fb, 0, none⟩ = some (.func (.func 30) #[] #[.pointer (some ⟨kb, 0, none⟩), .pointer (some ⟨bt, 0, none⟩), .pointer (some ⟨bo, 0, none⟩), .pointer (some ⟨fb, 0, none⟩)])
  ct : W.cell? ⟨bt, 0, none⟩ = some (.slice (some ⟨gt, 0, none⟩) k k)
  co : W.cell? ⟨bo, 0, none⟩ = some ov
  fo : W.frozen? ⟨bo, 0, none⟩ = false
  row : RowAt W gt 0 k ts
  fz : ∀ i, i < k → W.frozen? ⟨gt, i, none⟩ = false
  own : LolOwn w0.heap.size B W ov L vs
  on : ∀ g, ov.ownBlock = some g → g ≠ kb ∧ g ≠ fb ∧ g ≠ bt ∧ g ≠ bo ∧ g ≠ gt
theorem FilAt.later {w0 W W' : World} {B kb fb bt bo gt k : Nat} {ts : Nat → Int} {ov : Value} {L : List (List Int)} {vs : List Value} (h : FilAt w0 W B kb fb bt bo gt k ts ov L vs) (hb : Below W.heap.size W W') : FilAt w0 W' B kb fb bt bo gt k ts ov L vs :=
  ⟨below_chain h.below hb, h.ge, ⟨h.lt.1, h.lt.2.1, h.lt.2.2.1, h.lt.2.2.2.1, h.lt.2.2.2.2.1, Nat.le_trans h.lt.2.2.2.2.2 hb.size⟩, h.no, h.ng, by rw [hb.cell (cell_lt h.ck)]; exact h.ck, by rw [hb.cell (cell_lt h.cf)]; exact h.cf, by rw [hb.cell (cell_lt h.ct)]; exact h.ct, by rw [hb.cell (cell_lt h.co)]; exact h.co, by rw [hb.frozen (cell_lt h.co)]; exact h.fo, h.row.later hb, fun i hi => by rw [hb.frozen (cell_lt (by have := h.row i hi; rwa [Nat.zero_add] at this))]; exact h.fz i hi, h.own.later hb, h.on⟩
theorem FilAt.set {w0 W : World} {B kb fb bt bo gt k : Nat} {ts : Nat → Int} {ov : Value} {L : List (List Int)} {vs : List Value} (h : FilAt w0 W B kb fb bt bo gt k ts ov L vs) (a : Nat) (ha : a < k) (x : Int) : FilAt w0 (W.setCell ⟨gt, a, none⟩ (.int .i64 x)) B kb fb bt bo gt k (fun i => if i = a then x else ts i) ov L vs := by
  have hc : W.cell? ⟨gt, a, none⟩ = some (.int .i64 (ts a)) := by have := h.row a ha; rwa [Nat.zero_add] at this
  have far : ∀ b, gt ≠ b → (W.setCell ⟨gt, a, none⟩ (.int .i64 x)).cell? ⟨b, 0, none⟩ = W.cell? ⟨b, 0, none⟩ := fun b hb => by
    rw [put_cell _ hc, if_neg (fun e => hb (congrArg Addr.block e).symm)]
  refine ⟨h.below.setCell h.ge.2.2 _, h.ge, by rw [World.size_setCell]; exact h.lt, h.no, h.ng, by rw [far _ h.ng.1]; exact h.ck, by rw [far _ h.ng.2.1]; exact h.cf, by rw [far _ h.ng.2.2]; exact h.ct, by rw [far _ (Ne.symm h.no.2.2.2)]; exact h.co, by rw [World.frozen?_setCell]; exact h.fo, fun i hi => ?_, fun i hi => by rw [World.frozen?_setCell]; exact h.fz i hi, h.own.put _ _ (fun e => (h.on _ e).2.2.2.2 rfl) h.lt.2.2.2.2.1, h.on⟩
  rw [put_cell _ hc]
  by_cases hi2 : i = a
  · subst hi2; simp
  · rw [if_neg (fun e => hi2 (by have := congrArg Addr.off e; simpa using this))]
    simp only [hi2, if_false]
    exact h.row i hi
/-- The list's box gets a new list. -/
theorem FilAt.push {w0 W W' : World} {B kb fb bt bo gt k : Nat} {ts : Nat → Int} {ov ov' : Value} {L L' : List (List Int)} {vs vs' : List Value} (h : FilAt w0 W B kb fb bt bo gt k ts ov L vs) (hg : W.grownBy W' ov.ownBlock) (ho : LolOwn w0.heap.size B W' ov' L' vs') (hat : ∀ g, ov'.ownBlock = some g → ov.ownBlock = some g ∨ W.heap.size ≤ g) (hbo : ∀ g, ov.ownBlock = some g → w0.heap.size ≤ g) : FilAt w0 (W'.setCell ⟨bo, 0, none⟩ ov') B kb fb bt bo gt k ts ov' L' vs' := by
  have on' : ∀ g, ov'.ownBlock = some g → g ≠ kb ∧ g ≠ fb ∧ g ≠ bt ∧ g ≠ bo ∧ g ≠ gt := fun g hg' => by
    rcases hat g hg' with e | e
    · exact h.on g e
    · have := h.lt
      omega
  have far : ∀ b j, b < B → (∀ g, ov.ownBlock = some g → g ≠ b) → W'.cell? ⟨b, j, none⟩ = W.cell? ⟨b, j, none⟩ ∧ W'.frozen? ⟨b, j, none⟩ = W.frozen? ⟨b, j, none⟩ := fun b j hb hne =>
    ⟨hg.cell_far ⟨b, j, none⟩ (Nat.lt_of_lt_of_le hb h.lt.2.2.2.2.2) (fun e => hne b e.symm rfl), hg.frozen_far ⟨b, j, none⟩ (Nat.lt_of_lt_of_le hb h.lt.2.2.2.2.2) (fun e => hne b e.symm rfl)⟩
  have l := h.lt
  have hco : W'.cell? ⟨bo, 0, none⟩ = some ov := by rw [(far bo 0 l.2.2.2.1 (fun g e => (h.on g e).2.2.2.1)).1]; exact h.co
  have put : ∀ b j, bo ≠ b → (W'.setCell ⟨bo, 0, none⟩ ov').cell? ⟨b, j, none⟩ = W'.cell? ⟨b, j, none⟩ := fun b j hb => by
    rw [put_cell _ hco, if_neg (fun e => hb (congrArg Addr.block e).symm)]
  refine ⟨(h.below.grown hg h.below.size hbo).setCell h.ge.2.1 _, h.ge, ⟨l.1, l.2.1, l.2.2.1, l.2.2.2.1, l.2.2.2.2.1, by rw [World.size_setCell]; exact Nat.le_trans l.2.2.2.2.2 hg.size⟩, h.no, h.ng, ?_, ?_, ?_, ?_, ?_, fun i hi => ?_, fun i hi => ?_, ho.put _ _ (fun e => (on' _ e).2.2.2.1 rfl) l.2.2.2.1, on'⟩
  · rw [put _ _ h.no.1, (far kb 0 l.1 (fun g e => (h.on g e).1)).1]; exact h.ck
  · rw [put _ _ h.no.2.1, (far fb 0 l.2.1 (fun g e => (h.on g e).2.1)).1]; exact h.cf
  · rw [put _ _ h.no.2.2.1, (far bt 0 l.2.2.1 (fun g e => (h.on g e).2.2.1)).1]; exact h.ct
  · rw [put_cell _ hco, if_pos rfl]
  · rw [World.frozen?_setCell, (far bo 0 l.2.2.2.1 (fun g e => (h.on g e).2.2.2.1)).2]; exact h.fo
  · rw [put _ _ h.no.2.2.2, (far gt _ l.2.2.2.2.1 (fun g e => (h.on g e).2.2.2.2)).1]; exact h.row i hi
  · rw [World.frozen?_setCell, (far gt _ l.2.2.2.2.1 (fun g e => (h.on g e).2.2.2.2)).2]; exact h.fz i hi
theorem FilAt.far {w0 W W' : World} {B kb fb bt bo gt k : Nat} {ts : Nat → Int} {ov : Value} {L : List (List Int)} {vs : List Value} (h : FilAt w0 W B kb fb bt bo gt k ts ov L vs) (hg : W.grownBy W' ov.ownBlock) : W'.cell? ⟨bo, 0, none⟩ = some ov ∧ W'.cell? ⟨bt, 0, none⟩ = some (.slice (some ⟨gt, 0, none⟩) k k) ∧ W'.frozen? ⟨bo, 0, none⟩ = false := by
  have l := h.lt
  have e1 : bo < W.heap.size := Nat.lt_of_lt_of_le l.2.2.2.1 l.2.2.2.2.2
  have e2 : bt < W.heap.size := Nat.lt_of_lt_of_le l.2.2.1 l.2.2.2.2.2
  exact ⟨by rw [hg.cell_far ⟨bo, 0, none⟩ e1 (fun e => (h.on bo e.symm).2.2.2.1 rfl)]; exact h.co, by rw [hg.cell_far ⟨bt, 0, none⟩ e2 (fun e => (h.on bt e.symm).2.2.1 rfl)]; exact h.ct, by rw [hg.frozen_far ⟨bo, 0, none⟩ e1 (fun e => (h.on bo e.symm).2.2.2.1 rfl)]; exact h.fo⟩
theorem rowL_set (ts : Nat → Int) (a : Nat) (x : Int) : rowL (fun i => if i = a then x else ts i) (a + 1) = rowL ts a ++ [x] := by
  unfold rowL
  rw [List.range_succ, List.map_append]
  congr 1
  · refine List.map_congr_left (fun i hi => ?_)
    have := List.mem_range.1 hi
    rw [if_neg (by omega)]
  · simp
theorem rowL_congr {f g : Nat → Int} {n : Nat} (h : ∀ i, i < n → f i = g i) : rowL f n = rowL g n := by
  unfold rowL
  exact List.map_congr_left (fun i hi => h i (List.mem_range.1 hi))

set_option maxRecDepth 100000 in
set_option maxHeartbeats 4000000 in
theorem fill_end (w0 W : World) (B kb fb bt bo gt a l : Nat) (ts : Nat → Int) (ov : Value) (L : List (List Int)) (vs : List Value) (h : FilAt w0 W B kb fb bt bo gt (a + 1) ts ov L vs) (ha : a < 6) (hL : L.length ≤ 10000) (hw0 : w0.heap.size ≤ B) :
    Calls Tryd.prog 30 #[.int .i64 a, .int .i64 l, .pointer (some ⟨kb, 0, none⟩), .pointer (some ⟨bt, 0, none⟩), .pointer (some ⟨bo, 0, none⟩), .pointer (some ⟨fb, 0, none⟩)] W fun e W' => e = .returned (.tuple #[]) ∧ ∃ ts' ov' vs', FilAt w0 W' B kb fb bt bo gt (a + 1) ts' ov' (L ++ [rowL ts a ++ [(l : Int)]]) vs' ∧ ∀ i, i < a → ts' i = ts i := by
  obtain ⟨i0, hi, hz0, hz1, hz2⟩ := info_parts Tryd.infoInts
  have HINF : Hid (Tryd.prog.info? 35 = some i0 ∧ i0.zero = some (.slice none 0 0) ∧ i0.size = 1 ∧ i0.bytes = 24) := ⟨hi, hz0, hz1, hz2⟩
  clear hi hz0 hz1 hz2
  have HS := Hid.mk' (h.set a (by omega) (l : Int))
  have ck := h.ck
  have ct := h.ct
  have ca : W.cell? ⟨gt, a, none⟩ = some (.int .i64 (ts a)) := by have := h.row a (by omega); rwa [Nat.zero_add] at this
  have fa := h.fz a (by omega)
  rw [show ((a + 1 : Nat) : Int) = (a : Int) + 1 by omega] at ck
  have haI : (a : Int) < 6 := by omega
  have ha0 : (0 : Int) ≤ (a : Int) := by omega
  have hab : (a : Int) < (a : Int) + 1 := by omega
  obtain ⟨ao, cc, hov⟩ := h.own.form
  subst hov
  clear h
  go_enter Tryd.func30, Tryd.ntmps30
  go_wp2_with fail
  generalize W.setCell ⟨gt, a, none⟩ (.int .i64 (l : Int)) = W1 at HS ⊢
  clear ck ct ca fa
  have hcur : Below W1.heap.size W1 W1.drew := (Below.refl _ _).drew
  have HX : Hid (∀ Wx, Below W1.heap.size W1 Wx → Wx.cell? ⟨bo, 0, none⟩ = some (.slice ao L.length cc) ∧ Wx.cell? ⟨bt, 0, none⟩ = some (.slice (some ⟨gt, 0, none⟩) (a + 1) (a + 1))) := fun Wx hb => ⟨(HS.out.later hb).co, (HS.out.later hb).ct⟩
  refine region_but_last (n := 5) (S := fun Wx => Wx.cell? ⟨bo, 0, none⟩ = some (.slice ao L.length cc) ∧ Wx.cell? ⟨bt, 0, none⟩ = some (.slice (some ⟨gt, 0, none⟩) (a + 1) (a + 1))) (by kernel_rfl) (by kernel_rfl) (by kernel_rfl) (HX.out _ hcur) (fun hHeld => ?_)
  refine wpAnyH_take (i := 0) (v := ?v0a) rfl (by kernel_rfl) (by kernel_rfl) (by kernel_rfl) (fun _ _ _ h => h) (Or.inl ⟨by rfl, ?hy0a⟩) (by assumption) ?rest0a
  case hy0a => (intro w hSw; (try dsimp only at hSw); go_simp <;> (try with_reducible rfl))
  simp only [Act.put]
  refine wpAnyH_take (i := 1) (v := ?v1a) rfl (by kernel_rfl) (by kernel_rfl) (by kernel_rfl) (fun _ _ _ h => h) (Or.inl ⟨by rfl, ?hy1a⟩) (by assumption) ?rest1a
  case hy1a => (intro w hSw; (try dsimp only at hSw); go_simp <;> (try with_reducible rfl))
  simp only [Act.put]
  refine wpAnyH_ready (rs := [2]) (by kernel_rfl) (by simp) ?_
  refine AllReadyH.cons rfl (fun K hK => ?_) AllReadyH.nil
  go_simp
  refine (clone_any gt (a + 1) (a + 1) _ _ (HS.out.later hcur).row (by omega)).mono ?_
  rintro e w5 ⟨v5, rfl, h5, hb5⟩
  have HR5 := Hid.mk' (h5.mono (Nat.le_trans HS.out.lt.2.2.2.2.2 hcur.size))
  have hcur := below_chain hcur hb5
  obtain ⟨a5, c5, rfl, _⟩ := row_shape h5
  clear h5 hb5
  go_wp2_with fail
  refine hK.out _ _ ?_ (fun hHeld => ?_)
  · exact HX.out _ hcur
  clear hK K
  refine wpAnyH_ready (rs := [3]) (by kernel_rfl) (by simp) ?_
  refine AllReadyH.cons rfl (fun K hK => ?_) AllReadyH.nil
  go_simp
  have hcur6 := hcur.alloc hcur.size (.cells #[.slice a5 (a + 1) c5] 35)
  refine hK.out _ _ ?_ (fun hHeld => ?_)
  · exact HX.out _ hcur6
  clear hK K
  have HF6 := Hid.mk' (HS.out.later hcur6)
  have HR6 := Hid.mk' (own_past HR5.out ((Below.refl w5.heap.size w5).alloc (Nat.le_refl _) (.cells #[.slice a5 (a + 1) c5] 35)))
  have HNW : Hid (∀ j u, [Value.slice a5 (a + 1) c5][j]? = some u → (w5.alloc (.cells #[.slice a5 (a + 1) c5] 35)).cell? ((⟨w5.heap.size, 0, none⟩ : Addr).add j) = some u) := one_new _ _ _
  generalize w5.alloc (.cells #[.slice a5 (a + 1) c5] 35) = w6 at *
  generalize w5.heap.size = b6 at *
  clear HR5 hcur6 hcur
  refine wpAnyH_ready (rs := [4]) (by kernel_rfl) (by simp) ?_
  refine AllReadyH.cons rfl (fun K hK => ?_) AllReadyH.nil
  refine step_append_lies _ rfl _ _ _ rfl w0.heap.size 35 i0 _ 1 24 Tryd.underlying28 HINF.out.1 HINF.out.2.1 HINF.out.2.2.1 HINF.out.2.2.2 rfl (by omega) (.slice ao L.length cc) _ _ rfl HF6.out.own.1 ⟨b6, 0, none⟩ 1 1 [.slice a5 (a + 1) c5] rfl rfl HNW.out (by simp [Value.oneCell']) (by omega) (by unfold maxLen; omega) (by omega) (Nat.le_trans hw0 HF6.out.lt.2.2.2.2.2) _ rfl ?_
  intro g7 cap7 w7 hown7 hgrow7 hat7 hlt7
  have hat : ∀ g, (Value.slice (some ⟨g7, 0, none⟩) (L.length + 1) cap7).ownBlock = some g → (Value.slice ao L.length cc).ownBlock = some g ∨ w6.heap.size ≤ g := fun g hg => by
    have e : g7 = g := by simpa [Value.ownBlock] using hg
    subst e
    exact hat7.imp id (fun e => Nat.le_of_eq e.symm)
  have hfar := HF6.out.far hgrow7
  have HP := Hid.mk' (HF6.out.push hgrow7 (HF6.out.own.push (r := rowL (fun i => if i = a then (l : Int) else ts i) (a + 1)) (by rw [rowL_length]; exact HR6.out) hgrow7 hown7) hat (fun g hg => (HF6.out.own.1.lt g hg).1))
  refine hK.out _ _ ⟨hfar.1, hfar.2.1⟩ (fun hHeld => ?_)
  obtain ⟨k0, -, k1⟩ := hfar
  clear hK K hown7 hgrow7 hat7 hlt7 hat HR6 HF6 HNW
  refine wpAnyH_done (by kernel_rfl) ?_ _
  refine ahead_last rfl (fun K hK => ?_)
  go_simp
  refine hK _ _ ?_
  clear hK K
  generalize w7.setCell ⟨bo, 0, none⟩ (.slice (some ⟨g7, 0, none⟩) (L.length + 1) cap7) = w8 at *
  go_wp2_with fail
  refine bodyPost_ret (v := .tuple #[]) (by simp [results, Tryd.results30]) rfl ⟨rfl, (fun i => if i = a then (l : Int) else ts i), .slice (some ⟨g7, 0, none⟩) (L.length + 1) cap7, vs ++ [.slice a5 (a + 1) c5], ?_, ?_⟩
  · rw [← rowL_set]
    exact HP.out
  · intro i hi
    exact if_neg (by omega)

set_option maxRecDepth 100000 in
set_option maxHeartbeats 4000000 in
theorem fill_any : ∀ (m a l : Nat) (w0 W : World) (B kb fb bt bo gt k : Nat) (ts : Nat → Int) (ov : Value) (L : List (List Int)) (vs : List Value), a + m + 1 = k → FilAt w0 W B kb fb bt bo gt k ts ov L vs → k ≤ 6 → l < 21 → L.length + cntT m l ≤ 10000 → w0.heap.size ≤ B →
    Calls Tryd.prog 30 #[.int .i64 a, .int .i64 l, .pointer (some ⟨kb, 0, none⟩), .pointer (some ⟨bt, 0, none⟩), .pointer (some ⟨bo, 0, none⟩), .pointer (some ⟨fb, 0, none⟩)] W fun e W' => e = .returned (.tuple #[]) ∧ ∃ ts' ov' vs', FilAt w0 W' B kb fb bt bo gt k ts' ov' (L ++ (typT m l).map (fun r => rowL ts a ++ r)) vs' ∧ ∀ i, i < a → ts' i = ts i
  | 0, a, l, w0, W, B, kb, fb, bt, bo, gt, k, ts, ov, L, vs, hk, h, hk6, hl, hL, hw0 => by
    obtain rfl : a + 1 = k := by omega
    exact fill_end w0 W B kb fb bt bo gt a l ts ov L vs h (by omega) (by omega) hw0
  | m + 1, a, l, w0, W, B, kb, fb, bt, bo, gt, k, ts, ov, L, vs, hk, h, hk6, hl, hL, hw0 => by
    have HI := Hid.mk' (fun (x : Nat) (W' : World) (ts' : Nat → Int) (ov' : Value) (L' : List (List Int)) (vs' : List Value) (h' : FilAt w0 W' B kb fb bt bo gt k ts' ov' L' vs') (hx : x ≤ l) (hL' : L'.length + cntT m (l - x) ≤ 10000) => fill_any m (a + 1) (l - x) w0 W' B kb fb bt bo gt k ts' ov' L' vs' (by omega) h' hk6 (by omega) hL' hw0)
    have ck := h.ck
    have haI : (a : Int) + 1 < (k : Int) := by omega
    have ha0 : (0 : Int) ≤ (a : Int) := by omega
    have hkI : (k : Int) ≤ 6 := by omega
    have hl0 : (0 : Int) ≤ (l : Int) := by omega
    have hlI : (l : Int) < 21 := by omega
    have hgb : ((a : Int) == (k : Int) - 1) = false := by simp; omega
    have HST := Hid.mk' h
    have HLEN : Hid (∀ x, x ≤ l → (L ++ (typS (fun i => typT m (l - i)) x).map (fun r => rowL ts a ++ r)).length + cntT m (l - x) ≤ 10000) := fun x hx => by
      rw [List.length_append, List.length_map, typS_length, cntS_congr (g := fun i => cntT m (l - i)) (fun i _ => typT_length m (l - i))]
      have h1 := cntS_le (fun i => cntT m (l - i)) (show x + 1 ≤ l + 1 by omega)
      have h2 : cntS (fun i => cntT m (l - i)) (x + 1) = cntS (fun i => cntT m (l - i)) x + cntT m (l - x) := rfl
      have h3 : cntT (m + 1) l = cntS (fun i => cntT m (l - i)) (l + 1) := rfl
      omega
    have HFIN : Hid (typT (m + 1) l = typS (fun i => typT m (l - i)) (l + 1)) := rfl
    have HNX : Hid (∀ x, typS (fun i => typT m (l - i)) (x + 1) = typS (fun i => typT m (l - i)) x ++ (typT m (l - x)).map (fun r => (x : Int) :: r)) := fun x => rfl
    have HKA := Hid.mk' hk
    clear h hL hk
    generalize (fun i => typT m (l - i)) = F at *
    go_enter Tryd.func30, Tryd.ntmps30
    go_wp2_with fail
    clear ck
    go_loopw [24] (fun i wr => ∃ (x : Nat) (ts' : Nat → Int) (ov' : Value) (vs' : List Value), x ≤ l + 1 ∧ i = .int .i64 x ∧ Hid (FilAt w0 wr B kb fb bt bo gt k ts' ov' (L ++ (typS F x).map (fun r => rowL ts a ++ r)) vs') ∧ Hid (∀ i, i < a → ts' i = ts i)) (fun i _ => l + 1 - (intOf i).toNat)
    case atStart => exact ⟨0, ts, ov, vs, Nat.zero_le _, rfl, by show FilAt _ _ _ _ _ _ _ _ _ _ _ _ _; simpa [typS] using HST.out, fun i _ => rfl⟩
    case round =>
      clear HST
      obtain ⟨x, ts', ov', vs', hx, rfl, HST, HTS⟩ := hrel
      have hx0 : (0 : Int) ≤ (x : Int) := by omega
      rcases Nat.lt_or_ge x (l + 1) with h1 | h1
      · have hxl : (x : Int) < (l : Int) + 1 := by omega
        have hak : a < k := by have := HKA.out; omega
        have hakI : (a : Int) < (k : Int) := by omega
        have ct := HST.out.ct
        have ca : wr.cell? ⟨gt, a, none⟩ = some (.int .i64 (ts' a)) := by have := HST.out.row a hak; rwa [Nat.zero_add] at this
        have fa := HST.out.fz a hak
        have HS := Hid.mk' (HST.out.set a hak (x : Int))
        have cf := HS.out.cf
        have HCL := Hid.mk' (HI.out x _ _ _ _ _ HS.out (by omega) (HLEN.out x (by omega)))
        rw [show ((a + 1 : Nat) : Int) = (a : Int) + 1 by omega, show ((l - x : Nat) : Int) = (l : Int) - (x : Int) by omega] at HCL
        go_wp2_with fail
        refine HCL.out.mono ?_
        rintro e w4 ⟨rfl, ts4, ov4, vs4, h4, t4⟩
        have HF4 := Hid.mk' h4
        have HT4 := Hid.mk' t4
        clear h4 t4 HCL HS HST ct ca fa cf
        go_wp2_with fail
        refine ⟨⟨x + 1, ts4, ov4, vs4, h1, by go_num, ?_, fun i hi => ?_⟩, by simp [intOf]; omega⟩
        · show FilAt _ _ _ _ _ _ _ _ _ _ _ _ _
          have e5 : rowL (fun i => if i = a then (x : Int) else ts' i) (a + 1) = rowL ts a ++ [(x : Int)] := by rw [rowL_set, rowL_congr HTS.out]
          have e6 := HF4.out
          rw [e5, List.append_assoc] at e6
          rw [HNX.out, List.map_append, List.map_map]
          have e7 : (fun r => rowL ts a ++ r) ∘ (fun r => (x : Int) :: r) = fun r => rowL ts a ++ [(x : Int)] ++ r := by
            funext r; simp
          rw [e7]
          exact e6
        · rw [HT4.out i (by omega), if_neg (by omega)]
          exact HTS.out i hi
      · obtain rfl : x = l + 1 := by omega
        have hxl : ¬ (((l + 1 : Nat) : Int) < (l : Int) + 1) := by omega
        go_wp2_with fail
        refine bodyPost_end (v := .tuple #[]) (by simp [results, Tryd.results30]) rfl ⟨rfl, ts', ⟨ov', vs', ?_⟩, HTS.out⟩
        rw [HFIN.out]
        exact HST.out
end Go.Proofs.YteicjedmingplaaDoor
