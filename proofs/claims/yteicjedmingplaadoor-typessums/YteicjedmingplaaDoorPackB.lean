/- types.All: the function that fills a type from a place on. -/
import Derived.Test.YteicjedmingplaaDoorPackA
import Derived.Test.YteicjedmingplaaDoorTyMath
import Derived.Test.YteicjedmingplaaDoorLaysC
import Derived.Test.YteicjedmingplaaDoorTyP
import Derived.Deep.Cut
import Derived.Laws.EntriesVeiled
namespace Go.Proofs.YteicjedmingplaaDoor
open Go.RowKit

theorem clone_any (b n c : Nat) (z : Nat → Int) (w : World) (h : RowAt w b 0 n z) (hn : n ≤ 1000) :
    Calls Tryd.prog 31 #[.slice (some ⟨b, 0, none⟩) n c] w fun e w' => ∃ v, e = .returned v ∧ w'.ownsRow w.heap.size 3 1 v n (cellL (rowL z n)) ∧ Below w.heap.size w w' := by
  refine (Any.slices_Clone_int (ρ := Tryd.cloneA_ren) Tryd.cloneA b 0 n c (rowL z n) w (by rw [rowL_length]; exact Nat.le_refl _) (by omega) (fun j hj => ?_)).mono ?_
  · rw [rowL_length] at hj
    rw [h j hj]
    simp [rowL, hj]
  · rintro e w' ⟨v', rfl, h1, _, h2⟩
    refine ⟨v', rfl, ?_, h2⟩
    rw [List.take_of_length_le (by rw [rowL_length]; exact Nat.le_refl _)] at h1
    exact h1

/-- What the closure sees: the boxes, the type under way, the list so far. -/
structure FilAt (w0 W : World) (B kb fb bt bo gt k : Nat) (ts : Nat → Int) (ov : Value) (L : List (List Int)) (vs : List Value) : Prop where
  below : Below w0.heap.size w0 W
  ge : w0.heap.size ≤ bt ∧ w0.heap.size ≤ bo ∧ w0.heap.size ≤ gt
  lt : kb < B ∧ fb < B ∧ bt < B ∧ bo < B ∧ gt < B ∧ B ≤ W.heap.size
  no : bo ≠ kb ∧ bo ≠ fb ∧ bo ≠ bt ∧ bo ≠ gt
  ng : gt ≠ kb ∧ gt ≠ fb ∧ gt ≠ bt
  ck : W.cell? ⟨kb, 0, none⟩ = some (.int .i64 (k : Int))
  cf : W.cell? ⟨fb, 0, none⟩ = some (.func (.func 30) #[] #[.pointer (some ⟨kb, 0, none⟩), .pointer (some ⟨bt, 0, none⟩), .pointer (some ⟨bo, 0, none⟩), .pointer (some ⟨fb, 0, none⟩)])
  ct : W.cell? ⟨bt, 0, none⟩ = some (.slice (some ⟨gt, 0, none⟩) k k)
  co : W.cell? ⟨bo, 0, none⟩ = some ov
  fo : W.frozen? ⟨bo, 0, none⟩ = false
  row : RowAt W gt 0 k ts
  fz : ∀ i, i < k → W.frozen? ⟨gt, i, none⟩ = false
  own : LolOwn w0.heap.size B W ov L vs
  on : ∀ g, ov.ownBlock = some g → g ≠ kb ∧ g ≠ fb ∧ g ≠ bt ∧ g ≠ bo ∧ g ≠ gt
theorem FilAt.later {w0 W W' : World} {B kb fb bt bo gt k : Nat} {ts : Nat → Int} {ov : Value} {L : List (List Int)} {vs : List Value} (h : FilAt w0 W B kb fb bt bo gt k ts ov L vs) (hb : Below W.heap.size W W') : FilAt w0 W' B kb fb bt bo gt k ts ov L vs :=
  ⟨below_chain h.below hb, h.ge, ⟨h.lt.1, h.lt.2.1, h.lt.2.2.1, h.lt.2.2.2.1, h.lt.2.2.2.2.1, Nat.le_trans h.lt.2.2.2.2.2 hb.size⟩, h.no, h.ng, by rw [hb.cell (cell_lt h.ck)]; exact h.ck, by rw [hb.cell (cell_lt h.cf)]; exact h.cf, by rw [hb.cell (cell_lt h.ct)]; exact h.ct, by rw [hb.cell (cell_lt h.co)]; exact h.co, by rw [hb.frozen (cell_lt h.co)]; exact h.fo, h.row.later hb, fun i hi => by rw [hb.frozen (cell_lt (by have := h.row i hi; rwa [Nat.zero_add] at this))]; exact h.fz i hi, h.own.later hb, h.on⟩
theorem FilAt.set {w0 W : World} {B kb fb bt bo gt k : Nat} {ts : Nat → Int} {ov : Value} {L : List (List Int)} {vs : List Value} (h : FilAt w0 W B kb fb bt bo gt k ts ov L vs) (a : Nat) (ha : a < k) (x : Int) : FilAt w0 (W.setCell ⟨gt, a, none⟩ (.int .i64 x)) B kb fb bt bo gt k (fun i => if i = a then x else ts i) ov L vs := by
  have hc : W.cell? ⟨gt, a, none⟩ = some (.int .i64 (ts a)) := by have := h.row a ha; rwa [Nat.zero_add] at this
  have far : ∀ b, gt ≠ b → (W.setCell ⟨gt, a, none⟩ (.int .i64 x)).cell? ⟨b, 0, none⟩ = W.cell? ⟨b, 0, none⟩ := fun b hb => by
    rw [put_cell _ hc, if_neg (fun e => hb (congrArg Addr.block e).symm)]
  refine ⟨h.below.setCell h.ge.2.2 _, h.ge, by rw [World.size_setCell]; exact h.lt, h.no, h.ng, by rw [far _ h.ng.1]; exact h.ck, by rw [far _ h.ng.2.1]; exact h.cf, by rw [far _ h.ng.2.2]; exact h.ct, by rw [far _ (Ne.symm h.no.2.2.2)]; exact h.co, by rw [World.frozen?_setCell]; exact h.fo, fun i hi => ?_, fun i hi => by rw [World.frozen?_setCell]; exact h.fz i hi, h.own.put _ _ (fun e => (h.on _ e).2.2.2.2 rfl) h.lt.2.2.2.2.1, h.on⟩
  rw [put_cell _ hc]
  by_cases hi2 : i = a
  · subst hi2; simp
  · rw [if_neg (fun e => hi2 (by have := congrArg Addr.off e; simpa using this))]
    simp only [hi2, if_false]
    exact h.row i hi
/-- The list's box gets a new list. -/
theorem FilAt.push {w0 W W' : World} {B kb fb bt bo gt k : Nat} {ts : Nat → Int} {ov ov' : Value} {L L' : List (List Int)} {vs vs' : List Value} (h : FilAt w0 W B kb fb bt bo gt k ts ov L vs) (hg : W.grownBy W' ov.ownBlock) (ho : LolOwn w0.heap.size B W' ov' L' vs') (hat : ∀ g, ov'.ownBlock = some g → ov.ownBlock = some g ∨ W.heap.size ≤ g) (hbo : ∀ g, ov.ownBlock = some g → w0.heap.size ≤ g) : FilAt w0 (W'.setCell ⟨bo, 0, none⟩ ov') B kb fb bt bo gt k ts ov' L' vs' := by
  have on' : ∀ g, ov'.ownBlock = some g → g ≠ kb ∧ g ≠ fb ∧ g ≠ bt ∧ g ≠ bo ∧ g ≠ gt := fun g hg' => by
    rcases hat g hg' with e | e
    · exact h.on g e
    · have := h.lt
      omega
  have far : ∀ b j, b < B → (∀ g, ov.ownBlock = some g → g ≠ b) → W'.cell? ⟨b, j, none⟩ = W.cell? ⟨b, j, none⟩ ∧ W'.frozen? ⟨b, j, none⟩ = W.frozen? ⟨b, j, none⟩ := fun b j hb hne =>
    ⟨hg.cell_far ⟨b, j, none⟩ (Nat.lt_of_lt_of_le hb h.lt.2.2.2.2.2) (fun e => hne b e.symm rfl), hg.frozen_far ⟨b, j, none⟩ (Nat.lt_of_lt_of_le hb h.lt.2.2.2.2.2) (fun e => hne b e.symm rfl)⟩
  have l := h.lt
  have hco : W'.cell? ⟨bo, 0, none⟩ = some ov := by rw [(far bo 0 l.2.2.2.1 (fun g e => (h.on g e).2.2.2.1)).1]; exact h.co
  have put : ∀ b j, bo ≠ b → (W'.setCell ⟨bo, 0, none⟩ ov').cell? ⟨b, j, none⟩ = W'.cell? ⟨b, j, none⟩ := fun b j hb => by
    rw [put_cell _ hco, if_neg (fun e => hb (congrArg Addr.block e).symm)]
  refine ⟨(h.below.grown hg h.below.size hbo).setCell h.ge.2.1 _, h.ge, ⟨l.1, l.2.1, l.2.2.1, l.2.2.2.1, l.2.2.2.2.1, by rw [World.size_setCell]; exact Nat.le_trans l.2.2.2.2.2 hg.size⟩, h.no, h.ng, ?_, ?_, ?_, ?_, ?_, fun i hi => ?_, fun i hi => ?_, ho.put _ _ (fun e => (on' _ e).2.2.2.1 rfl) l.2.2.2.1, on'⟩
  · rw [put _ _ h.no.1, (far kb 0 l.1 (fun g e => (h.on g e).1)).1]; exact h.ck
  · rw [put _ _ h.no.2.1, (far fb 0 l.2.1 (fun g e => (h.on g e).2.1)).1]; exact h.cf
  · rw [put _ _ h.no.2.2.1, (far bt 0 l.2.2.1 (fun g e => (h.on g e).2.2.1)).1]; exact h.ct
  · rw [put_cell _ hco, if_pos rfl]
  · rw [World.frozen?_setCell, (far bo 0 l.2.2.2.1 (fun g e => (h.on g e).2.2.2.1)).2]; exact h.fo
  · rw [put _ _ h.no.2.2.2, (far gt _ l.2.2.2.2.1 (fun g e => (h.on g e).2.2.2.2)).1]; exact h.row i hi
  · rw [World.frozen?_setCell, (far gt _ l.2.2.2.2.1 (fun g e => (h.on g e).2.2.2.2)).2]; exact h.fz i hi
theorem FilAt.far {w0 W W' : World} {B kb fb bt bo gt k : Nat} {ts : Nat → Int} {ov : Value} {L : List (List Int)} {vs : List Value} (h : FilAt w0 W B kb fb bt bo gt k ts ov L vs) (hg : W.grownBy W' ov.ownBlock) : W'.cell? ⟨bo, 0, none⟩ = some ov ∧ W'.cell? ⟨bt, 0, none⟩ = some (.slice (some ⟨gt, 0, none⟩) k k) ∧ W'.frozen? ⟨bo, 0, none⟩ = false := by
  have l := h.lt
  have e1 : bo < W.heap.size := Nat.lt_of_lt_of_le l.2.2.2.1 l.2.2.2.2.2
  have e2 : bt < W.heap.size := Nat.lt_of_lt_of_le l.2.2.1 l.2.2.2.2.2
  exact ⟨by rw [hg.cell_far ⟨bo, 0, none⟩ e1 (fun e => (h.on bo e.symm).2.2.2.1 rfl)]; exact h.co, by rw [hg.cell_far ⟨bt, 0, none⟩ e2 (fun e => (h.on bt e.symm).2.2.1 rfl)]; exact h.ct, by rw [hg.frozen_far ⟨bo, 0, none⟩ e1 (fun e => (h.on bo e.symm).2.2.2.1 rfl)]; exact h.fo⟩
theorem rowL_set (ts : Nat → Int) (a : Nat) (x : Int) : rowL (fun i => if i = a then x else ts i) (a + 1) = rowL ts a ++ [x] := by
  unfold rowL
  rw [List.range_succ, List.map_append]
  congr 1
  · refine List.map_congr_left (fun i hi => ?_)
    have := List.mem_range.1 hi
    rw [if_neg (by omega)]
  · simp
theorem rowL_congr {f g : Nat → Int} {n : Nat} (h : ∀ i, i < n → f i = g i) : rowL f n = rowL g n := by
  unfold rowL
  exact List.map_congr_left (fun i hi => h i (List.mem_range.1 hi))

set_option maxRecDepth 100000 in
set_option maxHeartbeats 4000000 in
theorem fill_end (w0 W : World) (B kb fb bt bo gt a l : Nat) (ts : Nat → Int) (ov : Value) (L : List (List Int)) (vs : List Value) (h : FilAt w0 W B kb fb bt bo gt (a + 1) ts ov L vs) (ha : a < 6) (hL : L.length ≤ 10000) (hw0 : w0.heap.size ≤ B) :
    Calls Tryd.prog 30 #[.int .i64 a, .int .i64 l, .pointer (some ⟨kb, 0, none⟩), .pointer (some ⟨bt, 0, none⟩), .pointer (some ⟨bo, 0, none⟩), .pointer (some ⟨fb, 0, none⟩)] W fun e W' => e = .returned (.tuple #[]) ∧ ∃ ts' ov' vs', FilAt w0 W' B kb fb bt bo gt (a + 1) ts' ov' (L ++ [rowL ts a ++ [(l : Int)]]) vs' ∧ ∀ i, i < a → ts' i = ts i := by
  obtain ⟨i0, hi, hz0, hz1, hz2⟩ := info_parts Tryd.infoInts
  have HINF : Hid (Tryd.prog.info? 35 = some i0 ∧ i0.zero = some (.slice none 0 0) ∧ i0.size = 1 ∧ i0.bytes = 24) := ⟨hi, hz0, hz1, hz2⟩
  clear hi hz0 hz1 hz2
  have HS := Hid.mk' (h.set a (by omega) (l : Int))
  have ck := h.ck
  have ct := h.ct
  have ca : W.cell? ⟨gt, a, none⟩ = some (.int .i64 (ts a)) := by have := h.row a (by omega); rwa [Nat.zero_add] at this
  have fa := h.fz a (by omega)
  rw [show ((a + 1 : Nat) : Int) = (a : Int) + 1 by omega] at ck
  have haI : (a : Int) < 6 := by omega
  have ha0 : (0 : Int) ≤ (a : Int) := by omega
  have hab : (a : Int) < (a : Int) + 1 := by omega
  obtain ⟨ao, cc, hov⟩ := h.own.form
  subst hov
  clear h
  go_enter Tryd.func30, Tryd.ntmps30
  go_wp2_with fail
  generalize W.setCell ⟨gt, a, none⟩ (.int .i64 (l : Int)) = W1 at HS ⊢
  clear ck ct ca fa
  have hcur : Below W1.heap.size W1 W1.drew := (Below.refl _ _).drew
  have HX : Hid (∀ Wx, Below W1.heap.size W1 Wx → Wx.cell? ⟨bo, 0, none⟩ = some (.slice ao L.length cc) ∧ Wx.cell? ⟨bt, 0, none⟩ = some (.slice (some ⟨gt, 0, none⟩) (a + 1) (a + 1))) := fun Wx hb => ⟨(HS.out.later hb).co, (HS.out.later hb).ct⟩
  refine region_but_last (n := 5) (S := fun Wx => Wx.cell? ⟨bo, 0, none⟩ = some (.slice ao L.length cc) ∧ Wx.cell? ⟨bt, 0, none⟩ = some (.slice (some ⟨gt, 0, none⟩) (a + 1) (a + 1))) (by kernel_rfl) (by kernel_rfl) (by kernel_rfl) (HX.out _ hcur) (fun hHeld => ?_)
  refine wpAnyH_take (i := 0) (v := ?v0a) rfl (by kernel_rfl) (by kernel_rfl) (by kernel_rfl) (fun _ _ _ h => h) (Or.inl ⟨by rfl, ?hy0a⟩) (by assumption) ?rest0a
  case hy0a => (intro w hSw; (try dsimp only at hSw); go_simp <;> (try with_reducible rfl))
  simp only [Act.put]
  refine wpAnyH_take (i := 1) (v := ?v1a) rfl (by kernel_rfl) (by kernel_rfl) (by kernel_rfl) (fun _ _ _ h => h) (Or.inl ⟨by rfl, ?hy1a⟩) (by assumption) ?rest1a
  case hy1a => (intro w hSw; (try dsimp only at hSw); go_simp <;> (try with_reducible rfl))
  simp only [Act.put]
  refine wpAnyH_ready (rs := [2]) (by kernel_rfl) (by simp) ?_
  refine AllReadyH.cons rfl (fun K hK => ?_) AllReadyH.nil
  go_simp
  refine (clone_any gt (a + 1) (a + 1) _ _ (HS.out.later hcur).row (by omega)).mono ?_
  rintro e w5 ⟨v5, rfl, h5, hb5⟩
  have HR5 := Hid.mk' (h5.mono (Nat.le_trans HS.out.lt.2.2.2.2.2 hcur.size))
  have hcur := below_chain hcur hb5
  obtain ⟨a5, c5, rfl, _⟩ := row_shape h5
  clear h5 hb5
  go_wp2_with fail
  refine hK.out _ _ ?_ (fun hHeld => ?_)
  · exact HX.out _ hcur
  clear hK K
  refine wpAnyH_ready (rs := [3]) (by kernel_rfl) (by simp) ?_
  refine AllReadyH.cons rfl (fun K hK => ?_) AllReadyH.nil
  go_simp
  have hcur6 := hcur.alloc hcur.size (.cells #[.slice a5 (a + 1) c5] 35)
  refine hK.out _ _ ?_ (fun hHeld => ?_)
  · exact HX.out _ hcur6
  clear hK K
  have HF6 := Hid.mk' (HS.out.later hcur6)
  have HR6 := Hid.mk' (own_past HR5.out ((Below.refl w5.heap.size w5).alloc (Nat.le_refl _) (.cells #[.slice a5 (a + 1) c5] 35)))
  have HNW : Hid (∀ j u, [Value.slice a5 (a + 1) c5][j]? = some u → (w5.alloc (.cells #[.slice a5 (a + 1) c5] 35)).cell? ((⟨w5.heap.size, 0, none⟩ : Addr).add j) = some u) := one_new _ _ _
  generalize w5.alloc (.cells #[.slice a5 (a + 1) c5] 35) = w6 at *
  generalize w5.heap.size = b6 at *
  clear HR5 hcur6 hcur
  refine wpAnyH_ready (rs := [4]) (by kernel_rfl) (by simp) ?_
  refine AllReadyH.cons rfl (fun K hK => ?_) AllReadyH.nil
  refine step_append_lies _ rfl _ _ _ rfl w0.heap.size 35 i0 _ 1 24 Tryd.underlying28 HINF.out.1 HINF.out.2.1 HINF.out.2.2.1 HINF.out.2.2.2 rfl (by omega) (.slice ao L.length cc) _ _ rfl HF6.out.own.1 ⟨b6, 0, none⟩ 1 1 [.slice a5 (a + 1) c5] rfl rfl HNW.out (by simp [Value.oneCell']) (by omega) (by unfold maxLen; omega) (by omega) (Nat.le_trans hw0 HF6.out.lt.2.2.2.2.2) _ rfl ?_
  intro g7 cap7 w7 hown7 hgrow7 hat7 hlt7
  have hat : ∀ g, (Value.slice (some ⟨g7, 0, none⟩) (L.length + 1) cap7).ownBlock = some g → (Value.slice ao L.length cc).ownBlock = some g ∨ w6.heap.size ≤ g := fun g hg => by
    have e : g7 = g := by simpa [Value.ownBlock] using hg
    subst e
    exact hat7.imp id (fun e => Nat.le_of_eq e.symm)
  have hfar := HF6.out.far hgrow7
  have HP := Hid.mk' (HF6.out.push hgrow7 (HF6.out.own.push (r := rowL (fun i => if i = a then (l : Int) else ts i) (a + 1)) (by rw [rowL_length]; exact HR6.out) hgrow7 hown7) hat (fun g hg => (HF6.out.own.1.lt g hg).1))
  refine hK.out _ _ ⟨hfar.1, hfar.2.1⟩ (fun hHeld => ?_)
  obtain ⟨k0, -, k1⟩ := hfar
  clear hK K hown7 hgrow7 hat7 hlt7 hat HR6 HF6 HNW
  refine wpAnyH_done (by kernel_rfl) ?_ _
  refine ahead_last rfl (fun K hK => ?_)
  go_simp
  refine hK _ _ ?_
  clear hK K
  generalize w7.setCell ⟨bo, 0, none⟩ (.slice (some ⟨g7, 0, none⟩) (L.length + 1) cap7) = w8 at *
  go_wp2_with fail
  refine bodyPost_ret (v := .tuple #[]) (by simp [results, Tryd.results30]) rfl ⟨rfl, (fun i => if i = a then (l : Int) else ts i), .slice (some ⟨g7, 0, none⟩) (L.length + 1) cap7, vs ++ [.slice a5 (a + 1) c5], ?_, ?_⟩
  · rw [← rowL_set]
    exact HP.out
  · intro i hi
    exact if_neg (by omega)

set_option maxRecDepth 100000 in
set_option maxHeartbeats 4000000 in
theorem fill_any : ∀ (m a l : Nat) (w0 W : World) (B kb fb bt bo gt k : Nat) (ts : Nat → Int) (ov : Value) (L : List (List Int)) (vs : List Value), a + m + 1 = k → FilAt w0 W B kb fb bt bo gt k ts ov L vs → k ≤ 6 → l < 21 → L.length + cntT m l ≤ 10000 → w0.heap.size ≤ B →
    Calls Tryd.prog 30 #[.int .i64 a, .int .i64 l, .pointer (some ⟨kb, 0, none⟩), .pointer (some ⟨bt, 0, none⟩), .pointer (some ⟨bo, 0, none⟩), .pointer (some ⟨fb, 0, none⟩)] W fun e W' => e = .returned (.tuple #[]) ∧ ∃ ts' ov' vs', FilAt w0 W' B kb fb bt bo gt k ts' ov' (L ++ (typT m l).map (fun r => rowL ts a ++ r)) vs' ∧ ∀ i, i < a → ts' i = ts i
  | 0, a, l, w0, W, B, kb, fb, bt, bo, gt, k, ts, ov, L, vs, hk, h, hk6, hl, hL, hw0 => by
    obtain rfl : a + 1 = k := by omega
    exact fill_end w0 W B kb fb bt bo gt a l ts ov L vs h (by omega) (by omega) hw0
  | m + 1, a, l, w0, W, B, kb, fb, bt, bo, gt, k, ts, ov, L, vs, hk, h, hk6, hl, hL, hw0 => by
    have HI := Hid.mk' (fun (x : Nat) (W' : World) (ts' : Nat → Int) (ov' : Value) (L' : List (List Int)) (vs' : List Value) (h' : FilAt w0 W' B kb fb bt bo gt k ts' ov' L' vs') (hx : x ≤ l) (hL' : L'.length + cntT m (l - x) ≤ 10000) => fill_any m (a + 1) (l - x) w0 W' B kb fb bt bo gt k ts' ov' L' vs' (by omega) h' hk6 (by omega) hL' hw0)
    have ck := h.ck
    have haI : (a : Int) + 1 < (k : Int) := by omega
    have ha0 : (0 : Int) ≤ (a : Int) := by omega
    have hkI : (k : Int) ≤ 6 := by omega
    have hl0 : (0 : Int) ≤ (l : Int) := by omega
    have hlI : (l : Int) < 21 := by omega
    have hgb : ((a : Int) == (k : Int) - 1) = false := by simp; omega
    have HST := Hid.mk' h
    have HLEN : Hid (∀ x, x ≤ l → (L ++ (typS (fun i => typT m (l - i)) x).map (fun r => rowL ts a ++ r)).length + cntT m (l - x) ≤ 10000) := fun x hx => by
      rw [List.length_append, List.length_map, typS_length, cntS_congr (g := fun i => cntT m (l - i)) (fun i _ => typT_length m (l - i))]
      have h1 := cntS_le (fun i => cntT m (l - i)) (show x + 1 ≤ l + 1 by omega)
      have h2 : cntS (fun i => cntT m (l - i)) (x + 1) = cntS (fun i => cntT m (l - i)) x + cntT m (l - x) := rfl
      have h3 : cntT (m + 1) l = cntS (fun i => cntT m (l - i)) (l + 1) := rfl
      omega
    have HFIN : Hid (typT (m + 1) l = typS (fun i => typT m (l - i)) (l + 1)) := rfl
    have HNX : Hid (∀ x, typS (fun i => typT m (l - i)) (x + 1) = typS (fun i => typT m (l - i)) x ++ (typT m (l - x)).map (fun r => (x : Int) :: r)) := fun x => rfl
    have HKA := Hid.mk' hk
    clear h hL hk
    generalize (fun i => typT m (l - i)) = F at *
    go_enter Tryd.func30, Tryd.ntmps30
    go_wp2_with fail
    clear ck
    go_loopw [24] (fun i wr => ∃ (x : Nat) (ts' : Nat → Int) (ov' : Value) (vs' : List Value), x ≤ l + 1 ∧ i = .int .i64 x ∧ Hid (FilAt w0 wr B kb fb bt bo gt k ts' ov' (L ++ (typS F x).map (fun r => rowL ts a ++ r)) vs') ∧ Hid (∀ i, i < a → ts' i = ts i)) (fun i _ => l + 1 - (intOf i).toNat)
    case atStart => exact ⟨0, ts, ov, vs, Nat.zero_le _, rfl, by show FilAt _ _ _ _ _ _ _ _ _ _ _ _ _; simpa [typS] using HST.out, fun i _ => rfl⟩
    case round =>
      clear HST
      obtain ⟨x, ts', ov', vs', hx, rfl, HST, HTS⟩ := hrel
      have hx0 : (0 : Int) ≤ (x : Int) := by omega
      rcases Nat.lt_or_ge x (l + 1) with h1 | h1
      · have hxl : (x : Int) < (l : Int) + 1 := by omega
        have hak : a < k := by have := HKA.out; omega
        have hakI : (a : Int) < (k : Int) := by omega
        have ct := HST.out.ct
        have ca : wr.cell? ⟨gt, a, none⟩ = some (.int .i64 (ts' a)) := by have := HST.out.row a hak; rwa [Nat.zero_add] at this
        have fa := HST.out.fz a hak
        have HS := Hid.mk' (HST.out.set a hak (x : Int))
        have cf := HS.out.cf
        have HCL := Hid.mk' (HI.out x _ _ _ _ _ HS.out (by omega) (HLEN.out x (by omega)))
        rw [show ((a + 1 : Nat) : Int) = (a : Int) + 1 by omega, show ((l - x : Nat) : Int) = (l : Int) - (x : Int) by omega] at HCL
        go_wp2_with fail
        refine HCL.out.mono ?_
        rintro e w4 ⟨rfl, ts4, ov4, vs4, h4, t4⟩
        have HF4 := Hid.mk' h4
        have HT4 := Hid.mk' t4
        clear h4 t4 HCL HS HST ct ca fa cf
        go_wp2_with fail
        refine ⟨⟨x + 1, ts4, ov4, vs4, h1, by go_num, ?_, fun i hi => ?_⟩, by simp [intOf]; omega⟩
        · show FilAt _ _ _ _ _ _ _ _ _ _ _ _ _
          have e5 : rowL (fun i => if i = a then (x : Int) else ts' i) (a + 1) = rowL ts a ++ [(x : Int)] := by rw [rowL_set, rowL_congr HTS.out]
          have e6 := HF4.out
          rw [e5, List.append_assoc] at e6
          rw [HNX.out, List.map_append, List.map_map]
          have e7 : (fun r => rowL ts a ++ r) ∘ (fun r => (x : Int) :: r) = fun r => rowL ts a ++ [(x : Int)] ++ r := by
            funext r; simp
          rw [e7]
          exact e6
        · rw [HT4.out i (by omega), if_neg (by omega)]
          exact HTS.out i hi
      · obtain rfl : x = l + 1 := by omega
        have hxl : ¬ (((l + 1 : Nat) : Int) < (l : Int) + 1) := by omega
        go_wp2_with fail
        refine bodyPost_end (v := .tuple #[]) (by simp [results, Tryd.results30]) rfl ⟨rfl, ts', ⟨ov', vs', ?_⟩, HTS.out⟩
        rw [HFIN.out]
        exact HST.out
end Go.Proofs.YteicjedmingplaaDoor

/- types.All. -/
namespace Go.Proofs.YteicjedmingplaaDoor
open Go.RowKit

/-- The closure is made, and stored. -/
theorem Lai.fil {w W0 W : World} {kb k c go gt bo bt : Nat} (h : Lai W0 W kb k c go gt bo bt) (hb : Below w.heap.size w W0) (hkb : kb < W0.heap.size) (hkw : w.heap.size ≤ kb) (t : TypeId) :
    FilAt w (W.alloc (.cells #[.func (.func 30) #[] #[.pointer (some ⟨kb, 0, none⟩), .pointer (some ⟨bt, 0, none⟩), .pointer (some ⟨bo, 0, none⟩), .pointer (some ⟨W.heap.size, 0, none⟩)]] t)) (W.heap.size + 1) kb W.heap.size bt bo gt k (fun _ => 0) (.slice (some ⟨go, 0, none⟩) 0 c) [] [] := by
  have l := h.lt
  have g := h.ge
  have n := h.ne
  have hk : kb < W.heap.size := cell_lt h.ck
  have far : ∀ b j, b < W.heap.size → ∀ X, (W.alloc X).cell? ⟨b, j, none⟩ = W.cell? ⟨b, j, none⟩ := fun b j hb X => World.cell?_alloc_lt _ _ _ hb
  have ffz : ∀ b j, b < W.heap.size → ∀ X, (W.alloc X).frozen? ⟨b, j, none⟩ = W.frozen? ⟨b, j, none⟩ := fun b j hb X => ((Below.refl W.heap.size W).alloc (Nat.le_refl _) _).frozen hb
  have hs0 := hb.size
  refine ⟨(below_chain hb h.below).alloc (Nat.le_trans hs0 h.below.size) _, by omega, ⟨by omega, by omega, by omega, by omega, by omega, by simp⟩, by omega, by omega, ?_, ?_, ?_, ?_, ?_, fun i hi => ?_, fun i hi => ?_, ⟨?_, fun i r hr => by simp at hr⟩, fun g' hg' => ?_⟩
  · rw [far _ _ hk]; exact h.ck
  · rw [World.cell?_alloc_at _ _ _ _ rfl]; rfl
  · rw [far _ _ l.2.2.2]; exact h.ct.row 0 (by omega)
  · rw [far _ _ l.2.2.1]; exact h.co.row 0 (by omega)
  · rw [ffz _ _ l.2.2.1]; exact h.co.fz 0 (by omega)
  · rw [far _ _ l.2.1, Nat.zero_add]; exact h.row.row i hi
  · rw [ffz _ _ l.2.1]; exact h.row.fz i hi
  · exact own_past (h.own.mono hs0) ((Below.refl W.heap.size W).alloc (Nat.le_refl _) _)
  · obtain rfl : go = g' := by simpa [Value.ownBlock] using hg'
    omega

set_option maxRecDepth 100000 in
set_option maxHeartbeats 8000000 in
theorem All_ok (n k : Nat) (w : World) (hn : n < 21) (hk : k < 6) (hc : cntT k n ≤ 4000) : Calls Tryd.prog 10 #[.int .i64 n, .int .i64 ((k : Int) + 1)] w fun e w' => ∃ v, e = .returned (.tuple #[v, .nilIface]) ∧ LolAt w' v (typT k n) ∧ Below w.heap.size w w' := by
  obtain ⟨i0, hi, hz0, hz1, hz2⟩ := info_parts Tryd.infoInts
  have HINF : Hid (Tryd.prog.info? 35 = some i0 ∧ i0.zero = some (.slice none 0 0) ∧ i0.size = 1 ∧ i0.bytes = 24) := ⟨hi, hz0, hz1, hz2⟩
  clear hi hz0 hz1 hz2
  obtain ⟨i1, hi, hz0, hz1, hz2⟩ := info_parts Tryd.infoInt
  have HINI : Hid (Tryd.prog.info? 3 = some i1 ∧ i1.zero = some (.int .i64 0) ∧ i1.size = 1 ∧ i1.bytes = 8) := ⟨hi, hz0, hz1, hz2⟩
  clear hi hz0 hz1 hz2
  have HC := Hid.mk' (fun W => Count_ok n k W hn hk)
  have hnI : (n : Int) < 21 := by omega
  have hn0 : (0 : Int) ≤ (n : Int) := by omega
  obtain ⟨k1, hk1⟩ : ∃ k1, k1 = k + 1 := ⟨_, rfl⟩
  rw [show (k : Int) + 1 = (k1 : Int) by omega] at HC ⊢
  have hK1 : 1 ≤ k1 := by omega
  have hK6 : k1 ≤ 6 := by omega
  have HK1 := Hid.mk' hk1
  clear hk1
  have HCN := Hid.mk' hc
  have hcI : (cntT k n : Int) ≤ 4000 := by omega
  have hcI0 : 0 ≤ (cntT k n : Int) := by omega
  generalize cntT k n = c at hc hcI hcI0 HC
  go_enter Tryd.func10, Tryd.ntmps10
  go_wp2_with fail
  refine (HC.out _).mono ?_
  rintro e w1 ⟨rfl, hw1⟩
  rw [hw1]
  clear hw1 HC
  go_wp2_with fail
  have ck0 : (w.alloc (.cells #[.int .i64 (k1 : Int)] 3)).cell? ⟨w.heap.size, 0, none⟩ = some (.int .i64 (k1 : Int)) := by rw [World.cell?_alloc_at _ _ _ _ rfl]; rfl
  have HB0 : Hid (Below w.heap.size w (w.alloc (.cells #[.int .i64 (k1 : Int)] 3))) := (Below.refl _ _).alloc (Nat.le_refl _) _
  have HKB : Hid (w.heap.size < (w.alloc (.cells #[.int .i64 (k1 : Int)] 3)).heap.size) := cell_lt ck0
  generalize w.alloc (.cells #[.int .i64 (k1 : Int)] 3) = W0 at *
  go_cut [8, 9] from 23 (fun p q wx => ∃ go gt bo bt : Nat, p = .pointer (some ⟨bo, 0, none⟩) ∧ q = .pointer (some ⟨bt, 0, none⟩) ∧ Hid (Lai W0 wx w.heap.size k1 c go gt bo bt))
  case first =>
    have HBg := Hid.mk' (beg_start (w := W0) (W := W0.drew) (kb := w.heap.size) (k := k1) (c := c) (v := .slice none 0 0) (Below.refl _ _).drew ck0)
    refine region_but_last (n := 7) (S := fun W => W.cell? ⟨w.heap.size, 0, none⟩ = some (.int .i64 (k1 : Int))) (by kernel_rfl) (by kernel_rfl) (by kernel_rfl) HBg.out.ck (fun hHeld => ?_)
    clear ck0
    generalize W0.drew = Wd at *
    refine wpAnyH_take (i := 0) (v := ?v0z) rfl (by kernel_rfl) (by kernel_rfl) (by kernel_rfl) (fun _ _ _ h => h) (Or.inl ⟨by rfl, ?hy0z⟩) (by assumption) ?rest0z
    case hy0z => (intro w hSw; (try dsimp only at hSw); go_simp <;> (try with_reducible rfl))
    simp only [Act.put]
    refine wpAnyH_take (i := 2) (v := ?v2z) rfl (by kernel_rfl) (by kernel_rfl) (by kernel_rfl) (fun _ _ _ h => h) (Or.inl ⟨by rfl, ?hy2z⟩) (by assumption) ?rest2z
    case hy2z => (intro w hSw; (try dsimp only at hSw); go_simp <;> (try with_reducible rfl))
    simp only [Act.put]
    refine wpAnyH_ready (rs := [1, 3, 4, 5]) (by kernel_rfl) (by simp) ?_
    refine AllReadyH.cons (i := 1) (rs := [3, 4, 5]) rfl (fun K hK => ?_) ?_
    · refine tstep_room _ rfl _ _ _ rfl 35 i0 _ Tryd.underlying28 HINF.out.1 HINF.out.2.1 HINF.out.2.2.1 c rfl rfl (by rw [HINF.out.2.2.2]; omega) (by unfold maxLen; omega) ?_
      intro wm1 hown hgrow
      have HBg := Hid.mk' (HBg.out.add0 hown hgrow)
      refine hK.out _ _ HBg.out.ck (fun hHeld => ?_)
      clear hK K hown hgrow
      simp only [Act.put, List.getElem_toArray, List.getElem_cons_succ, List.getElem_cons_zero, List.setIfInBounds_toArray, List.set_cons_succ, List.set_cons_zero]
      refine wpAnyH_ready (rs := [3, 4, 5]) (by kernel_rfl) (by simp) ?_
      refine AllReadyH.cons (i := 3) (rs := [4, 5]) rfl (fun K hK => ?_) ?_
      · refine tstep_make _ rfl _ _ _ rfl 3 i1 _ Tryd.underlying35 HINI.out.1 HINI.out.2.1 HINI.out.2.2.1 k1 rfl rfl (by rw [HINI.out.2.2.2]; omega) (by unfold maxLen; omega) ?_
        intro wm2 hown hgrow
        have HBg := Hid.mk' (HBg.out.add1 hown hgrow)
        refine hK.out _ _ HBg.out.ck (fun hHeld => ?_)
        clear hK K hown hgrow
        simp only [Act.put, List.getElem_toArray, List.getElem_cons_succ, List.getElem_cons_zero, List.setIfInBounds_toArray, List.set_cons_succ, List.set_cons_zero]
        refine wpAnyH_ready (rs := [4, 5]) (by kernel_rfl) (by simp) ?_
        refine AllReadyH.cons (i := 4) (rs := [5]) rfl (fun K hK => ?_) ?_
        · go_simp
          have HBg := Hid.mk' (HBg.out.add2 28)
          refine hK.out _ _ HBg.out.ck (fun hHeld => ?_)
          clear hK K
          generalize wm2.alloc (.cells #[.slice none 0 0] 28) = wm3 at HBg hHeld ⊢
          (try simp only [Act.put, List.getElem_toArray, List.getElem_cons_succ, List.getElem_cons_zero, List.setIfInBounds_toArray, List.set_cons_succ, List.set_cons_zero])
          refine wpAnyH_ready (rs := [5]) (by kernel_rfl) (by simp) ?_
          refine AllReadyH.cons (i := 5) (rs := []) rfl (fun K hK => ?_) ?_
          · go_simp
            have HBg := Hid.mk' (HBg.out.add3 35)
            refine hK.out _ _ HBg.out.ck (fun hHeld => ?_)
            clear hK K
            generalize wm3.alloc (.cells #[.slice none 0 0] 35) = wm4 at HBg hHeld ⊢
            (try simp only [Act.put, List.getElem_toArray, List.getElem_cons_succ, List.getElem_cons_zero, List.setIfInBounds_toArray, List.set_cons_succ, List.set_cons_zero])
            refine wpAnyH_ready (rs := [6]) (by kernel_rfl) (by simp) ?_
            refine AllReadyH.cons (i := 6) (rs := []) rfl (fun K hK => ?_) ?_
            · have bb := (HBg.out.b2 _ rfl)
              have e0 := bb.row 0 (by decide)
              have f0 := bb.fz 0 (by decide)
              have HBg := Hid.mk' (HBg.out.store rfl HKB.out (.slice (some ⟨Wd.heap.size, 0, none⟩) 0 c))
              go_simp
              refine hK.out _ _ HBg.out.ck (fun hHeld => ?_)
              clear hK K bb e0 f0
              generalize wm4.setCell ⟨wm2.heap.size, 0, none⟩ (.slice (some ⟨Wd.heap.size, 0, none⟩) 0 c) = wm5 at HBg hHeld ⊢
              (try simp only [Act.put, List.getElem_toArray, List.getElem_cons_succ, List.getElem_cons_zero, List.setIfInBounds_toArray, List.set_cons_succ, List.set_cons_zero])
              have bb := (HBg.out.b3 _ rfl)
              have e0 := bb.row 0 (by decide)
              have f0 := bb.fz 0 (by decide)
              have HLAI := Hid.mk' (HBg.out.lai rfl rfl rfl rfl HKB.out)
              clear bb
              refine wpAnyH_done (by kernel_rfl) ?_ _
              refine ahead_last rfl (fun K hK => ?_)
              go_simp
              refine hK _ _ ?_
              clear hK K
              go_wp2_with fail
              go_meet
              exact ⟨_, _, _, _, rfl, rfl, HLAI.out⟩
            exact AllReadyH.nil
          exact AllReadyH.nil
        refine AllReadyH.cons (i := 5) (rs := []) rfl (fun K hK => ?_) ?_
        · go_simp
          have HBg := Hid.mk' (HBg.out.add3 35)
          refine hK.out _ _ HBg.out.ck (fun hHeld => ?_)
          clear hK K
          generalize wm2.alloc (.cells #[.slice none 0 0] 35) = wm6 at HBg hHeld ⊢
          (try simp only [Act.put, List.getElem_toArray, List.getElem_cons_succ, List.getElem_cons_zero, List.setIfInBounds_toArray, List.set_cons_succ, List.set_cons_zero])
          refine wpAnyH_ready (rs := [4]) (by kernel_rfl) (by simp) ?_
          refine AllReadyH.cons (i := 4) (rs := []) rfl (fun K hK => ?_) ?_
          · go_simp
            have HBg := Hid.mk' (HBg.out.add2 28)
            refine hK.out _ _ HBg.out.ck (fun hHeld => ?_)
            clear hK K
            generalize wm6.alloc (.cells #[.slice none 0 0] 28) = wm7 at HBg hHeld ⊢
            (try simp only [Act.put, List.getElem_toArray, List.getElem_cons_succ, List.getElem_cons_zero, List.setIfInBounds_toArray, List.set_cons_succ, List.set_cons_zero])
            refine wpAnyH_ready (rs := [6]) (by kernel_rfl) (by simp) ?_
            refine AllReadyH.cons (i := 6) (rs := []) rfl (fun K hK => ?_) ?_
            · have bb := (HBg.out.b2 _ rfl)
              have e0 := bb.row 0 (by decide)
              have f0 := bb.fz 0 (by decide)
              have HBg := Hid.mk' (HBg.out.store rfl HKB.out (.slice (some ⟨Wd.heap.size, 0, none⟩) 0 c))
              go_simp
              refine hK.out _ _ HBg.out.ck (fun hHeld => ?_)
              clear hK K bb e0 f0
              generalize wm7.setCell ⟨wm6.heap.size, 0, none⟩ (.slice (some ⟨Wd.heap.size, 0, none⟩) 0 c) = wm8 at HBg hHeld ⊢
              (try simp only [Act.put, List.getElem_toArray, List.getElem_cons_succ, List.getElem_cons_zero, List.setIfInBounds_toArray, List.set_cons_succ, List.set_cons_zero])
              have bb := (HBg.out.b3 _ rfl)
              have e0 := bb.row 0 (by decide)
              have f0 := bb.fz 0 (by decide)
              have HLAI := Hid.mk' (HBg.out.lai rfl rfl rfl rfl HKB.out)
              clear bb
              refine wpAnyH_done (by kernel_rfl) ?_ _
              refine ahead_last rfl (fun K hK => ?_)
              go_simp
              refine hK _ _ ?_
              clear hK K
              go_wp2_with fail
              go_meet
              exact ⟨_, _, _, _, rfl, rfl, HLAI.out⟩
            exact AllReadyH.nil
          exact AllReadyH.nil
        exact AllReadyH.nil
      refine AllReadyH.cons (i := 4) (rs := [5]) rfl (fun K hK => ?_) ?_
      · go_simp
        have HBg := Hid.mk' (HBg.out.add2 28)
        refine hK.out _ _ HBg.out.ck (fun hHeld => ?_)
        clear hK K
        generalize wm1.alloc (.cells #[.slice none 0 0] 28) = wm9 at HBg hHeld ⊢
        (try simp only [Act.put, List.getElem_toArray, List.getElem_cons_succ, List.getElem_cons_zero, List.setIfInBounds_toArray, List.set_cons_succ, List.set_cons_zero])
        refine wpAnyH_ready (rs := [3, 5]) (by kernel_rfl) (by simp) ?_
        refine AllReadyH.cons (i := 3) (rs := [5]) rfl (fun K hK => ?_) ?_
        · refine tstep_make _ rfl _ _ _ rfl 3 i1 _ Tryd.underlying35 HINI.out.1 HINI.out.2.1 HINI.out.2.2.1 k1 rfl rfl (by rw [HINI.out.2.2.2]; omega) (by unfold maxLen; omega) ?_
          intro wm10 hown hgrow
          have HBg := Hid.mk' (HBg.out.add1 hown hgrow)
          refine hK.out _ _ HBg.out.ck (fun hHeld => ?_)
          clear hK K hown hgrow
          simp only [Act.put, List.getElem_toArray, List.getElem_cons_succ, List.getElem_cons_zero, List.setIfInBounds_toArray, List.set_cons_succ, List.set_cons_zero]
          refine wpAnyH_ready (rs := [5]) (by kernel_rfl) (by simp) ?_
          refine AllReadyH.cons (i := 5) (rs := []) rfl (fun K hK => ?_) ?_
          · go_simp
            have HBg := Hid.mk' (HBg.out.add3 35)
            refine hK.out _ _ HBg.out.ck (fun hHeld => ?_)
            clear hK K
            generalize wm10.alloc (.cells #[.slice none 0 0] 35) = wm11 at HBg hHeld ⊢
            (try simp only [Act.put, List.getElem_toArray, List.getElem_cons_succ, List.getElem_cons_zero, List.setIfInBounds_toArray, List.set_cons_succ, List.set_cons_zero])
            refine wpAnyH_ready (rs := [6]) (by kernel_rfl) (by simp) ?_
            refine AllReadyH.cons (i := 6) (rs := []) rfl (fun K hK => ?_) ?_
            · have bb := (HBg.out.b2 _ rfl)
              have e0 := bb.row 0 (by decide)
              have f0 := bb.fz 0 (by decide)
              have HBg := Hid.mk' (HBg.out.store rfl HKB.out (.slice (some ⟨Wd.heap.size, 0, none⟩) 0 c))
              go_simp
              refine hK.out _ _ HBg.out.ck (fun hHeld => ?_)
              clear hK K bb e0 f0
              generalize wm11.setCell ⟨wm1.heap.size, 0, none⟩ (.slice (some ⟨Wd.heap.size, 0, none⟩) 0 c) = wm12 at HBg hHeld ⊢
              (try simp only [Act.put, List.getElem_toArray, List.getElem_cons_succ, List.getElem_cons_zero, List.setIfInBounds_toArray, List.set_cons_succ, List.set_cons_zero])
              have bb := (HBg.out.b3 _ rfl)
              have e0 := bb.row 0 (by decide)
              have f0 := bb.fz 0 (by decide)
              have HLAI := Hid.mk' (HBg.out.lai rfl rfl rfl rfl HKB.out)
              clear bb
              refine wpAnyH_done (by kernel_rfl) ?_ _
              refine ahead_last rfl (fun K hK => ?_)
              go_simp
              refine hK _ _ ?_
              clear hK K
              go_wp2_with fail
              go_meet
              exact ⟨_, _, _, _, rfl, rfl, HLAI.out⟩
            exact AllReadyH.nil
          exact AllReadyH.nil
        refine AllReadyH.cons (i := 5) (rs := []) rfl (fun K hK => ?_) ?_
        · go_simp
          have HBg := Hid.mk' (HBg.out.add3 35)
          refine hK.out _ _ HBg.out.ck (fun hHeld => ?_)
          clear hK K
          generalize wm9.alloc (.cells #[.slice none 0 0] 35) = wm13 at HBg hHeld ⊢
          (try simp only [Act.put, List.getElem_toArray, List.getElem_cons_succ, List.getElem_cons_zero, List.setIfInBounds_toArray, List.set_cons_succ, List.set_cons_zero])
          refine wpAnyH_ready (rs := [3, 6]) (by kernel_rfl) (by simp) ?_
          refine AllReadyH.cons (i := 3) (rs := [6]) rfl (fun K hK => ?_) ?_
          · refine tstep_make _ rfl _ _ _ rfl 3 i1 _ Tryd.underlying35 HINI.out.1 HINI.out.2.1 HINI.out.2.2.1 k1 rfl rfl (by rw [HINI.out.2.2.2]; omega) (by unfold maxLen; omega) ?_
            intro wm14 hown hgrow
            have HBg := Hid.mk' (HBg.out.add1 hown hgrow)
            refine hK.out _ _ HBg.out.ck (fun hHeld => ?_)
            clear hK K hown hgrow
            simp only [Act.put, List.getElem_toArray, List.getElem_cons_succ, List.getElem_cons_zero, List.setIfInBounds_toArray, List.set_cons_succ, List.set_cons_zero]
            refine wpAnyH_ready (rs := [6]) (by kernel_rfl) (by simp) ?_
            refine AllReadyH.cons (i := 6) (rs := []) rfl (fun K hK => ?_) ?_
            · have bb := (HBg.out.b2 _ rfl)
              have e0 := bb.row 0 (by decide)
              have f0 := bb.fz 0 (by decide)
              have HBg := Hid.mk' (HBg.out.store rfl HKB.out (.slice (some ⟨Wd.heap.size, 0, none⟩) 0 c))
              go_simp
              refine hK.out _ _ HBg.out.ck (fun hHeld => ?_)
              clear hK K bb e0 f0
              generalize wm14.setCell ⟨wm1.heap.size, 0, none⟩ (.slice (some ⟨Wd.heap.size, 0, none⟩) 0 c) = wm15 at HBg hHeld ⊢
              (try simp only [Act.put, List.getElem_toArray, List.getElem_cons_succ, List.getElem_cons_zero, List.setIfInBounds_toArray, List.set_cons_succ, List.set_cons_zero])
              have bb := (HBg.out.b3 _ rfl)
              have e0 := bb.row 0 (by decide)
              have f0 := bb.fz 0 (by decide)
              have HLAI := Hid.mk' (HBg.out.lai rfl rfl rfl rfl HKB.out)
              clear bb
              refine wpAnyH_done (by kernel_rfl) ?_ _
              refine ahead_last rfl (fun K hK => ?_)
              go_simp
              refine hK _ _ ?_
              clear hK K
              go_wp2_with fail
              go_meet
              exact ⟨_, _, _, _, rfl, rfl, HLAI.out⟩
            exact AllReadyH.nil
          refine AllReadyH.cons (i := 6) (rs := []) rfl (fun K hK => ?_) ?_
          · have bb := (HBg.out.b2 _ rfl)
            have e0 := bb.row 0 (by decide)
            have f0 := bb.fz 0 (by decide)
            have HBg := Hid.mk' (HBg.out.store rfl HKB.out (.slice (some ⟨Wd.heap.size, 0, none⟩) 0 c))
            go_simp
            refine hK.out _ _ HBg.out.ck (fun hHeld => ?_)
            clear hK K bb e0 f0
            generalize wm13.setCell ⟨wm1.heap.size, 0, none⟩ (.slice (some ⟨Wd.heap.size, 0, none⟩) 0 c) = wm16 at HBg hHeld ⊢
            (try simp only [Act.put, List.getElem_toArray, List.getElem_cons_succ, List.getElem_cons_zero, List.setIfInBounds_toArray, List.set_cons_succ, List.set_cons_zero])
            refine wpAnyH_ready (rs := [3]) (by kernel_rfl) (by simp) ?_
            refine AllReadyH.cons (i := 3) (rs := []) rfl (fun K hK => ?_) ?_
            · refine tstep_make _ rfl _ _ _ rfl 3 i1 _ Tryd.underlying35 HINI.out.1 HINI.out.2.1 HINI.out.2.2.1 k1 rfl rfl (by rw [HINI.out.2.2.2]; omega) (by unfold maxLen; omega) ?_
              intro wm17 hown hgrow
              have HBg := Hid.mk' (HBg.out.add1 hown hgrow)
              refine hK.out _ _ HBg.out.ck (fun hHeld => ?_)
              clear hK K hown hgrow
              simp only [Act.put, List.getElem_toArray, List.getElem_cons_succ, List.getElem_cons_zero, List.setIfInBounds_toArray, List.set_cons_succ, List.set_cons_zero]
              have bb := (HBg.out.b3 _ rfl)
              have e0 := bb.row 0 (by decide)
              have f0 := bb.fz 0 (by decide)
              have HLAI := Hid.mk' (HBg.out.lai rfl rfl rfl rfl HKB.out)
              clear bb
              refine wpAnyH_done (by kernel_rfl) ?_ _
              refine ahead_last rfl (fun K hK => ?_)
              go_simp
              refine hK _ _ ?_
              clear hK K
              go_wp2_with fail
              go_meet
              exact ⟨_, _, _, _, rfl, rfl, HLAI.out⟩
            exact AllReadyH.nil
          exact AllReadyH.nil
        exact AllReadyH.nil
      refine AllReadyH.cons (i := 5) (rs := []) rfl (fun K hK => ?_) ?_
      · go_simp
        have HBg := Hid.mk' (HBg.out.add3 35)
        refine hK.out _ _ HBg.out.ck (fun hHeld => ?_)
        clear hK K
        generalize wm1.alloc (.cells #[.slice none 0 0] 35) = wm18 at HBg hHeld ⊢
        (try simp only [Act.put, List.getElem_toArray, List.getElem_cons_succ, List.getElem_cons_zero, List.setIfInBounds_toArray, List.set_cons_succ, List.set_cons_zero])
        refine wpAnyH_ready (rs := [3, 4]) (by kernel_rfl) (by simp) ?_
        refine AllReadyH.cons (i := 3) (rs := [4]) rfl (fun K hK => ?_) ?_
        · refine tstep_make _ rfl _ _ _ rfl 3 i1 _ Tryd.underlying35 HINI.out.1 HINI.out.2.1 HINI.out.2.2.1 k1 rfl rfl (by rw [HINI.out.2.2.2]; omega) (by unfold maxLen; omega) ?_
          intro wm19 hown hgrow
          have HBg := Hid.mk' (HBg.out.add1 hown hgrow)
          refine hK.out _ _ HBg.out.ck (fun hHeld => ?_)
          clear hK K hown hgrow
          simp only [Act.put, List.getElem_toArray, List.getElem_cons_succ, List.getElem_cons_zero, List.setIfInBounds_toArray, List.set_cons_succ, List.set_cons_zero]
          refine wpAnyH_ready (rs := [4]) (by kernel_rfl) (by simp) ?_
          refine AllReadyH.cons (i := 4) (rs := []) rfl (fun K hK => ?_) ?_
          · go_simp
            have HBg := Hid.mk' (HBg.out.add2 28)
            refine hK.out _ _ HBg.out.ck (fun hHeld => ?_)
            clear hK K
            generalize wm19.alloc (.cells #[.slice none 0 0] 28) = wm20 at HBg hHeld ⊢
            (try simp only [Act.put, List.getElem_toArray, List.getElem_cons_succ, List.getElem_cons_zero, List.setIfInBounds_toArray, List.set_cons_succ, List.set_cons_zero])
            refine wpAnyH_ready (rs := [6]) (by kernel_rfl) (by simp) ?_
            refine AllReadyH.cons (i := 6) (rs := []) rfl (fun K hK => ?_) ?_
            · have bb := (HBg.out.b2 _ rfl)
              have e0 := bb.row 0 (by decide)
              have f0 := bb.fz 0 (by decide)
              have HBg := Hid.mk' (HBg.out.store rfl HKB.out (.slice (some ⟨Wd.heap.size, 0, none⟩) 0 c))
              go_simp
              refine hK.out _ _ HBg.out.ck (fun hHeld => ?_)
              clear hK K bb e0 f0
              generalize wm20.setCell ⟨wm19.heap.size, 0, none⟩ (.slice (some ⟨Wd.heap.size, 0, none⟩) 0 c) = wm21 at HBg hHeld ⊢
              (try simp only [Act.put, List.getElem_toArray, List.getElem_cons_succ, List.getElem_cons_zero, List.setIfInBounds_toArray, List.set_cons_succ, List.set_cons_zero])
              have bb := (HBg.out.b3 _ rfl)
              have e0 := bb.row 0 (by decide)
              have f0 := bb.fz 0 (by decide)
              have HLAI := Hid.mk' (HBg.out.lai rfl rfl rfl rfl HKB.out)
              clear bb
              refine wpAnyH_done (by kernel_rfl) ?_ _
              refine ahead_last rfl (fun K hK => ?_)
              go_simp
              refine hK _ _ ?_
              clear hK K
              go_wp2_with fail
              go_meet
              exact ⟨_, _, _, _, rfl, rfl, HLAI.out⟩
            exact AllReadyH.nil
          exact AllReadyH.nil
        refine AllReadyH.cons (i := 4) (rs := []) rfl (fun K hK => ?_) ?_
        · go_simp
          have HBg := Hid.mk' (HBg.out.add2 28)
          refine hK.out _ _ HBg.out.ck (fun hHeld => ?_)
          clear hK K
          generalize wm18.alloc (.cells #[.slice none 0 0] 28) = wm22 at HBg hHeld ⊢
          (try simp only [Act.put, List.getElem_toArray, List.getElem_cons_succ, List.getElem_cons_zero, List.setIfInBounds_toArray, List.set_cons_succ, List.set_cons_zero])
          refine wpAnyH_ready (rs := [3, 6]) (by kernel_rfl) (by simp) ?_
          refine AllReadyH.cons (i := 3) (rs := [6]) rfl (fun K hK => ?_) ?_
          · refine tstep_make _ rfl _ _ _ rfl 3 i1 _ Tryd.underlying35 HINI.out.1 HINI.out.2.1 HINI.out.2.2.1 k1 rfl rfl (by rw [HINI.out.2.2.2]; omega) (by unfold maxLen; omega) ?_
            intro wm23 hown hgrow
            have HBg := Hid.mk' (HBg.out.add1 hown hgrow)
            refine hK.out _ _ HBg.out.ck (fun hHeld => ?_)
            clear hK K hown hgrow
            simp only [Act.put, List.getElem_toArray, List.getElem_cons_succ, List.getElem_cons_zero, List.setIfInBounds_toArray, List.set_cons_succ, List.set_cons_zero]
            refine wpAnyH_ready (rs := [6]) (by kernel_rfl) (by simp) ?_
            refine AllReadyH.cons (i := 6) (rs := []) rfl (fun K hK => ?_) ?_
            · have bb := (HBg.out.b2 _ rfl)
              have e0 := bb.row 0 (by decide)
              have f0 := bb.fz 0 (by decide)
              have HBg := Hid.mk' (HBg.out.store rfl HKB.out (.slice (some ⟨Wd.heap.size, 0, none⟩) 0 c))
              go_simp
              refine hK.out _ _ HBg.out.ck (fun hHeld => ?_)
              clear hK K bb e0 f0
              generalize wm23.setCell ⟨wm18.heap.size, 0, none⟩ (.slice (some ⟨Wd.heap.size, 0, none⟩) 0 c) = wm24 at HBg hHeld ⊢
              (try simp only [Act.put, List.getElem_toArray, List.getElem_cons_succ, List.getElem_cons_zero, List.setIfInBounds_toArray, List.set_cons_succ, List.set_cons_zero])
              have bb := (HBg.out.b3 _ rfl)
              have e0 := bb.row 0 (by decide)
              have f0 := bb.fz 0 (by decide)
              have HLAI := Hid.mk' (HBg.out.lai rfl rfl rfl rfl HKB.out)
              clear bb
              refine wpAnyH_done (by kernel_rfl) ?_ _
              refine ahead_last rfl (fun K hK => ?_)
              go_simp
              refine hK _ _ ?_
              clear hK K
              go_wp2_with fail
              go_meet
              exact ⟨_, _, _, _, rfl, rfl, HLAI.out⟩
            exact AllReadyH.nil
          refine AllReadyH.cons (i := 6) (rs := []) rfl (fun K hK => ?_) ?_
          · have bb := (HBg.out.b2 _ rfl)
            have e0 := bb.row 0 (by decide)
            have f0 := bb.fz 0 (by decide)
            have HBg := Hid.mk' (HBg.out.store rfl HKB.out (.slice (some ⟨Wd.heap.size, 0, none⟩) 0 c))
            go_simp
            refine hK.out _ _ HBg.out.ck (fun hHeld => ?_)
            clear hK K bb e0 f0
            generalize wm22.setCell ⟨wm18.heap.size, 0, none⟩ (.slice (some ⟨Wd.heap.size, 0, none⟩) 0 c) = wm25 at HBg hHeld ⊢
            (try simp only [Act.put, List.getElem_toArray, List.getElem_cons_succ, List.getElem_cons_zero, List.setIfInBounds_toArray, List.set_cons_succ, List.set_cons_zero])
            refine wpAnyH_ready (rs := [3]) (by kernel_rfl) (by simp) ?_
            refine AllReadyH.cons (i := 3) (rs := []) rfl (fun K hK => ?_) ?_
            · refine tstep_make _ rfl _ _ _ rfl 3 i1 _ Tryd.underlying35 HINI.out.1 HINI.out.2.1 HINI.out.2.2.1 k1 rfl rfl (by rw [HINI.out.2.2.2]; omega) (by unfold maxLen; omega) ?_
              intro wm26 hown hgrow
              have HBg := Hid.mk' (HBg.out.add1 hown hgrow)
              refine hK.out _ _ HBg.out.ck (fun hHeld => ?_)
              clear hK K hown hgrow
              simp only [Act.put, List.getElem_toArray, List.getElem_cons_succ, List.getElem_cons_zero, List.setIfInBounds_toArray, List.set_cons_succ, List.set_cons_zero]
              have bb := (HBg.out.b3 _ rfl)
              have e0 := bb.row 0 (by decide)
              have f0 := bb.fz 0 (by decide)
              have HLAI := Hid.mk' (HBg.out.lai rfl rfl rfl rfl HKB.out)
              clear bb
              refine wpAnyH_done (by kernel_rfl) ?_ _
              refine ahead_last rfl (fun K hK => ?_)
              go_simp
              refine hK _ _ ?_
              clear hK K
              go_wp2_with fail
              go_meet
              exact ⟨_, _, _, _, rfl, rfl, HLAI.out⟩
            exact AllReadyH.nil
          exact AllReadyH.nil
        exact AllReadyH.nil
      exact AllReadyH.nil
    refine AllReadyH.cons (i := 3) (rs := [4, 5]) rfl (fun K hK => ?_) ?_
    · refine tstep_make _ rfl _ _ _ rfl 3 i1 _ Tryd.underlying35 HINI.out.1 HINI.out.2.1 HINI.out.2.2.1 k1 rfl rfl (by rw [HINI.out.2.2.2]; omega) (by unfold maxLen; omega) ?_
      intro wm27 hown hgrow
      have HBg := Hid.mk' (HBg.out.add1 hown hgrow)
      refine hK.out _ _ HBg.out.ck (fun hHeld => ?_)
      clear hK K hown hgrow
      simp only [Act.put, List.getElem_toArray, List.getElem_cons_succ, List.getElem_cons_zero, List.setIfInBounds_toArray, List.set_cons_succ, List.set_cons_zero]
      refine wpAnyH_ready (rs := [1, 4, 5]) (by kernel_rfl) (by simp) ?_
      refine AllReadyH.cons (i := 1) (rs := [4, 5]) rfl (fun K hK => ?_) ?_
      · refine tstep_room _ rfl _ _ _ rfl 35 i0 _ Tryd.underlying28 HINF.out.1 HINF.out.2.1 HINF.out.2.2.1 c rfl rfl (by rw [HINF.out.2.2.2]; omega) (by unfold maxLen; omega) ?_
        intro wm28 hown hgrow
        have HBg := Hid.mk' (HBg.out.add0 hown hgrow)
        refine hK.out _ _ HBg.out.ck (fun hHeld => ?_)
        clear hK K hown hgrow
        simp only [Act.put, List.getElem_toArray, List.getElem_cons_succ, List.getElem_cons_zero, List.setIfInBounds_toArray, List.set_cons_succ, List.set_cons_zero]
        refine wpAnyH_ready (rs := [4, 5]) (by kernel_rfl) (by simp) ?_
        refine AllReadyH.cons (i := 4) (rs := [5]) rfl (fun K hK => ?_) ?_
        · go_simp
          have HBg := Hid.mk' (HBg.out.add2 28)
          refine hK.out _ _ HBg.out.ck (fun hHeld => ?_)
          clear hK K
          generalize wm28.alloc (.cells #[.slice none 0 0] 28) = wm29 at HBg hHeld ⊢
          (try simp only [Act.put, List.getElem_toArray, List.getElem_cons_succ, List.getElem_cons_zero, List.setIfInBounds_toArray, List.set_cons_succ, List.set_cons_zero])
          refine wpAnyH_ready (rs := [5]) (by kernel_rfl) (by simp) ?_
          refine AllReadyH.cons (i := 5) (rs := []) rfl (fun K hK => ?_) ?_
          · go_simp
            have HBg := Hid.mk' (HBg.out.add3 35)
            refine hK.out _ _ HBg.out.ck (fun hHeld => ?_)
            clear hK K
            generalize wm29.alloc (.cells #[.slice none 0 0] 35) = wm30 at HBg hHeld ⊢
            (try simp only [Act.put, List.getElem_toArray, List.getElem_cons_succ, List.getElem_cons_zero, List.setIfInBounds_toArray, List.set_cons_succ, List.set_cons_zero])
            refine wpAnyH_ready (rs := [6]) (by kernel_rfl) (by simp) ?_
            refine AllReadyH.cons (i := 6) (rs := []) rfl (fun K hK => ?_) ?_
            · have bb := (HBg.out.b2 _ rfl)
              have e0 := bb.row 0 (by decide)
              have f0 := bb.fz 0 (by decide)
              have HBg := Hid.mk' (HBg.out.store rfl HKB.out (.slice (some ⟨wm27.heap.size, 0, none⟩) 0 c))
              go_simp
              refine hK.out _ _ HBg.out.ck (fun hHeld => ?_)
              clear hK K bb e0 f0
              generalize wm30.setCell ⟨wm28.heap.size, 0, none⟩ (.slice (some ⟨wm27.heap.size, 0, none⟩) 0 c) = wm31 at HBg hHeld ⊢
              (try simp only [Act.put, List.getElem_toArray, List.getElem_cons_succ, List.getElem_cons_zero, List.setIfInBounds_toArray, List.set_cons_succ, List.set_cons_zero])
              have bb := (HBg.out.b3 _ rfl)
              have e0 := bb.row 0 (by decide)
              have f0 := bb.fz 0 (by decide)
              have HLAI := Hid.mk' (HBg.out.lai rfl rfl rfl rfl HKB.out)
              clear bb
              refine wpAnyH_done (by kernel_rfl) ?_ _
              refine ahead_last rfl (fun K hK => ?_)
              go_simp
              refine hK _ _ ?_
              clear hK K
              go_wp2_with fail
              go_meet
              exact ⟨_, _, _, _, rfl, rfl, HLAI.out⟩
            exact AllReadyH.nil
          exact AllReadyH.nil
        refine AllReadyH.cons (i := 5) (rs := []) rfl (fun K hK => ?_) ?_
        · go_simp
          have HBg := Hid.mk' (HBg.out.add3 35)
          refine hK.out _ _ HBg.out.ck (fun hHeld => ?_)
          clear hK K
          generalize wm28.alloc (.cells #[.slice none 0 0] 35) = wm32 at HBg hHeld ⊢
          (try simp only [Act.put, List.getElem_toArray, List.getElem_cons_succ, List.getElem_cons_zero, List.setIfInBounds_toArray, List.set_cons_succ, List.set_cons_zero])
          refine wpAnyH_ready (rs := [4]) (by kernel_rfl) (by simp) ?_
          refine AllReadyH.cons (i := 4) (rs := []) rfl (fun K hK => ?_) ?_
          · go_simp
            have HBg := Hid.mk' (HBg.out.add2 28)
            refine hK.out _ _ HBg.out.ck (fun hHeld => ?_)
            clear hK K
            generalize wm32.alloc (.cells #[.slice none 0 0] 28) = wm33 at HBg hHeld ⊢
            (try simp only [Act.put, List.getElem_toArray, List.getElem_cons_succ, List.getElem_cons_zero, List.setIfInBounds_toArray, List.set_cons_succ, List.set_cons_zero])
            refine wpAnyH_ready (rs := [6]) (by kernel_rfl) (by simp) ?_
            refine AllReadyH.cons (i := 6) (rs := []) rfl (fun K hK => ?_) ?_
            · have bb := (HBg.out.b2 _ rfl)
              have e0 := bb.row 0 (by decide)
              have f0 := bb.fz 0 (by decide)
              have HBg := Hid.mk' (HBg.out.store rfl HKB.out (.slice (some ⟨wm27.heap.size, 0, none⟩) 0 c))
              go_simp
              refine hK.out _ _ HBg.out.ck (fun hHeld => ?_)
              clear hK K bb e0 f0
              generalize wm33.setCell ⟨wm32.heap.size, 0, none⟩ (.slice (some ⟨wm27.heap.size, 0, none⟩) 0 c) = wm34 at HBg hHeld ⊢
              (try simp only [Act.put, List.getElem_toArray, List.getElem_cons_succ, List.getElem_cons_zero, List.setIfInBounds_toArray, List.set_cons_succ, List.set_cons_zero])
              have bb := (HBg.out.b3 _ rfl)
              have e0 := bb.row 0 (by decide)
              have f0 := bb.fz 0 (by decide)
              have HLAI := Hid.mk' (HBg.out.lai rfl rfl rfl rfl HKB.out)
              clear bb
              refine wpAnyH_done (by kernel_rfl) ?_ _
              refine ahead_last rfl (fun K hK => ?_)
              go_simp
              refine hK _ _ ?_
              clear hK K
              go_wp2_with fail
              go_meet
              exact ⟨_, _, _, _, rfl, rfl, HLAI.out⟩
            exact AllReadyH.nil
          exact AllReadyH.nil
        exact AllReadyH.nil
      refine AllReadyH.cons (i := 4) (rs := [5]) rfl (fun K hK => ?_) ?_
      · go_simp
        have HBg := Hid.mk' (HBg.out.add2 28)
        refine hK.out _ _ HBg.out.ck (fun hHeld => ?_)
        clear hK K
        generalize wm27.alloc (.cells #[.slice none 0 0] 28) = wm35 at HBg hHeld ⊢
        (try simp only [Act.put, List.getElem_toArray, List.getElem_cons_succ, List.getElem_cons_zero, List.setIfInBounds_toArray, List.set_cons_succ, List.set_cons_zero])
        refine wpAnyH_ready (rs := [1, 5]) (by kernel_rfl) (by simp) ?_
        refine AllReadyH.cons (i := 1) (rs := [5]) rfl (fun K hK => ?_) ?_
        · refine tstep_room _ rfl _ _ _ rfl 35 i0 _ Tryd.underlying28 HINF.out.1 HINF.out.2.1 HINF.out.2.2.1 c rfl rfl (by rw [HINF.out.2.2.2]; omega) (by unfold maxLen; omega) ?_
          intro wm36 hown hgrow
          have HBg := Hid.mk' (HBg.out.add0 hown hgrow)
          refine hK.out _ _ HBg.out.ck (fun hHeld => ?_)
          clear hK K hown hgrow
          simp only [Act.put, List.getElem_toArray, List.getElem_cons_succ, List.getElem_cons_zero, List.setIfInBounds_toArray, List.set_cons_succ, List.set_cons_zero]
          refine wpAnyH_ready (rs := [5]) (by kernel_rfl) (by simp) ?_
          refine AllReadyH.cons (i := 5) (rs := []) rfl (fun K hK => ?_) ?_
          · go_simp
            have HBg := Hid.mk' (HBg.out.add3 35)
            refine hK.out _ _ HBg.out.ck (fun hHeld => ?_)
            clear hK K
            generalize wm36.alloc (.cells #[.slice none 0 0] 35) = wm37 at HBg hHeld ⊢
            (try simp only [Act.put, List.getElem_toArray, List.getElem_cons_succ, List.getElem_cons_zero, List.setIfInBounds_toArray, List.set_cons_succ, List.set_cons_zero])
            refine wpAnyH_ready (rs := [6]) (by kernel_rfl) (by simp) ?_
            refine AllReadyH.cons (i := 6) (rs := []) rfl (fun K hK => ?_) ?_
            · have bb := (HBg.out.b2 _ rfl)
              have e0 := bb.row 0 (by decide)
              have f0 := bb.fz 0 (by decide)
              have HBg := Hid.mk' (HBg.out.store rfl HKB.out (.slice (some ⟨wm35.heap.size, 0, none⟩) 0 c))
              go_simp
              refine hK.out _ _ HBg.out.ck (fun hHeld => ?_)
              clear hK K bb e0 f0
              generalize wm37.setCell ⟨wm27.heap.size, 0, none⟩ (.slice (some ⟨wm35.heap.size, 0, none⟩) 0 c) = wm38 at HBg hHeld ⊢
              (try simp only [Act.put, List.getElem_toArray, List.getElem_cons_succ, List.getElem_cons_zero, List.setIfInBounds_toArray, List.set_cons_succ, List.set_cons_zero])
              have bb := (HBg.out.b3 _ rfl)
              have e0 := bb.row 0 (by decide)
              have f0 := bb.fz 0 (by decide)
              have HLAI := Hid.mk' (HBg.out.lai rfl rfl rfl rfl HKB.out)
              clear bb
              refine wpAnyH_done (by kernel_rfl) ?_ _
              refine ahead_last rfl (fun K hK => ?_)
              go_simp
              refine hK _ _ ?_
              clear hK K
              go_wp2_with fail
              go_meet
              exact ⟨_, _, _, _, rfl, rfl, HLAI.out⟩
            exact AllReadyH.nil
          exact AllReadyH.nil
        refine AllReadyH.cons (i := 5) (rs := []) rfl (fun K hK => ?_) ?_
        · go_simp
          have HBg := Hid.mk' (HBg.out.add3 35)
          refine hK.out _ _ HBg.out.ck (fun hHeld => ?_)
          clear hK K
          generalize wm35.alloc (.cells #[.slice none 0 0] 35) = wm39 at HBg hHeld ⊢
          (try simp only [Act.put, List.getElem_toArray, List.getElem_cons_succ, List.getElem_cons_zero, List.setIfInBounds_toArray, List.set_cons_succ, List.set_cons_zero])
          refine wpAnyH_ready (rs := [1]) (by kernel_rfl) (by simp) ?_
          refine AllReadyH.cons (i := 1) (rs := []) rfl (fun K hK => ?_) ?_
          · refine tstep_room _ rfl _ _ _ rfl 35 i0 _ Tryd.underlying28 HINF.out.1 HINF.out.2.1 HINF.out.2.2.1 c rfl rfl (by rw [HINF.out.2.2.2]; omega) (by unfold maxLen; omega) ?_
            intro wm40 hown hgrow
            have HBg := Hid.mk' (HBg.out.add0 hown hgrow)
            refine hK.out _ _ HBg.out.ck (fun hHeld => ?_)
            clear hK K hown hgrow
            simp only [Act.put, List.getElem_toArray, List.getElem_cons_succ, List.getElem_cons_zero, List.setIfInBounds_toArray, List.set_cons_succ, List.set_cons_zero]
            refine wpAnyH_ready (rs := [6]) (by kernel_rfl) (by simp) ?_
            refine AllReadyH.cons (i := 6) (rs := []) rfl (fun K hK => ?_) ?_
            · have bb := (HBg.out.b2 _ rfl)
              have e0 := bb.row 0 (by decide)
              have f0 := bb.fz 0 (by decide)
              have HBg := Hid.mk' (HBg.out.store rfl HKB.out (.slice (some ⟨wm39.heap.size, 0, none⟩) 0 c))
              go_simp
              refine hK.out _ _ HBg.out.ck (fun hHeld => ?_)
              clear hK K bb e0 f0
              generalize wm40.setCell ⟨wm27.heap.size, 0, none⟩ (.slice (some ⟨wm39.heap.size, 0, none⟩) 0 c) = wm41 at HBg hHeld ⊢
              (try simp only [Act.put, List.getElem_toArray, List.getElem_cons_succ, List.getElem_cons_zero, List.setIfInBounds_toArray, List.set_cons_succ, List.set_cons_zero])
              have bb := (HBg.out.b3 _ rfl)
              have e0 := bb.row 0 (by decide)
              have f0 := bb.fz 0 (by decide)
              have HLAI := Hid.mk' (HBg.out.lai rfl rfl rfl rfl HKB.out)
              clear bb
              refine wpAnyH_done (by kernel_rfl) ?_ _
              refine ahead_last rfl (fun K hK => ?_)
              go_simp
              refine hK _ _ ?_
              clear hK K
              go_wp2_with fail
              go_meet
              exact ⟨_, _, _, _, rfl, rfl, HLAI.out⟩
            exact AllReadyH.nil
          exact AllReadyH.nil
        exact AllReadyH.nil
      refine AllReadyH.cons (i := 5) (rs := []) rfl (fun K hK => ?_) ?_
      · go_simp
        have HBg := Hid.mk' (HBg.out.add3 35)
        refine hK.out _ _ HBg.out.ck (fun hHeld => ?_)
        clear hK K
        generalize wm27.alloc (.cells #[.slice none 0 0] 35) = wm42 at HBg hHeld ⊢
        (try simp only [Act.put, List.getElem_toArray, List.getElem_cons_succ, List.getElem_cons_zero, List.setIfInBounds_toArray, List.set_cons_succ, List.set_cons_zero])
        refine wpAnyH_ready (rs := [1, 4]) (by kernel_rfl) (by simp) ?_
        refine AllReadyH.cons (i := 1) (rs := [4]) rfl (fun K hK => ?_) ?_
        · refine tstep_room _ rfl _ _ _ rfl 35 i0 _ Tryd.underlying28 HINF.out.1 HINF.out.2.1 HINF.out.2.2.1 c rfl rfl (by rw [HINF.out.2.2.2]; omega) (by unfold maxLen; omega) ?_
          intro wm43 hown hgrow
          have HBg := Hid.mk' (HBg.out.add0 hown hgrow)
          refine hK.out _ _ HBg.out.ck (fun hHeld => ?_)
          clear hK K hown hgrow
          simp only [Act.put, List.getElem_toArray, List.getElem_cons_succ, List.getElem_cons_zero, List.setIfInBounds_toArray, List.set_cons_succ, List.set_cons_zero]
          refine wpAnyH_ready (rs := [4]) (by kernel_rfl) (by simp) ?_
          refine AllReadyH.cons (i := 4) (rs := []) rfl (fun K hK => ?_) ?_
          · go_simp
            have HBg := Hid.mk' (HBg.out.add2 28)
            refine hK.out _ _ HBg.out.ck (fun hHeld => ?_)
            clear hK K
            generalize wm43.alloc (.cells #[.slice none 0 0] 28) = wm44 at HBg hHeld ⊢
            (try simp only [Act.put, List.getElem_toArray, List.getElem_cons_succ, List.getElem_cons_zero, List.setIfInBounds_toArray, List.set_cons_succ, List.set_cons_zero])
            refine wpAnyH_ready (rs := [6]) (by kernel_rfl) (by simp) ?_
            refine AllReadyH.cons (i := 6) (rs := []) rfl (fun K hK => ?_) ?_
            · have bb := (HBg.out.b2 _ rfl)
              have e0 := bb.row 0 (by decide)
              have f0 := bb.fz 0 (by decide)
              have HBg := Hid.mk' (HBg.out.store rfl HKB.out (.slice (some ⟨wm42.heap.size, 0, none⟩) 0 c))
              go_simp
              refine hK.out _ _ HBg.out.ck (fun hHeld => ?_)
              clear hK K bb e0 f0
              generalize wm44.setCell ⟨wm43.heap.size, 0, none⟩ (.slice (some ⟨wm42.heap.size, 0, none⟩) 0 c) = wm45 at HBg hHeld ⊢
              (try simp only [Act.put, List.getElem_toArray, List.getElem_cons_succ, List.getElem_cons_zero, List.setIfInBounds_toArray, List.set_cons_succ, List.set_cons_zero])
              have bb := (HBg.out.b3 _ rfl)
              have e0 := bb.row 0 (by decide)
              have f0 := bb.fz 0 (by decide)
              have HLAI := Hid.mk' (HBg.out.lai rfl rfl rfl rfl HKB.out)
              clear bb
              refine wpAnyH_done (by kernel_rfl) ?_ _
              refine ahead_last rfl (fun K hK => ?_)
              go_simp
              refine hK _ _ ?_
              clear hK K
              go_wp2_with fail
              go_meet
              exact ⟨_, _, _, _, rfl, rfl, HLAI.out⟩
            exact AllReadyH.nil
          exact AllReadyH.nil
        refine AllReadyH.cons (i := 4) (rs := []) rfl (fun K hK => ?_) ?_
        · go_simp
          have HBg := Hid.mk' (HBg.out.add2 28)
          refine hK.out _ _ HBg.out.ck (fun hHeld => ?_)
          clear hK K
          generalize wm42.alloc (.cells #[.slice none 0 0] 28) = wm46 at HBg hHeld ⊢
          (try simp only [Act.put, List.getElem_toArray, List.getElem_cons_succ, List.getElem_cons_zero, List.setIfInBounds_toArray, List.set_cons_succ, List.set_cons_zero])
          refine wpAnyH_ready (rs := [1]) (by kernel_rfl) (by simp) ?_
          refine AllReadyH.cons (i := 1) (rs := []) rfl (fun K hK => ?_) ?_
          · refine tstep_room _ rfl _ _ _ rfl 35 i0 _ Tryd.underlying28 HINF.out.1 HINF.out.2.1 HINF.out.2.2.1 c rfl rfl (by rw [HINF.out.2.2.2]; omega) (by unfold maxLen; omega) ?_
            intro wm47 hown hgrow
            have HBg := Hid.mk' (HBg.out.add0 hown hgrow)
            refine hK.out _ _ HBg.out.ck (fun hHeld => ?_)
            clear hK K hown hgrow
            simp only [Act.put, List.getElem_toArray, List.getElem_cons_succ, List.getElem_cons_zero, List.setIfInBounds_toArray, List.set_cons_succ, List.set_cons_zero]
            refine wpAnyH_ready (rs := [6]) (by kernel_rfl) (by simp) ?_
            refine AllReadyH.cons (i := 6) (rs := []) rfl (fun K hK => ?_) ?_
            · have bb := (HBg.out.b2 _ rfl)
              have e0 := bb.row 0 (by decide)
              have f0 := bb.fz 0 (by decide)
              have HBg := Hid.mk' (HBg.out.store rfl HKB.out (.slice (some ⟨wm46.heap.size, 0, none⟩) 0 c))
              go_simp
              refine hK.out _ _ HBg.out.ck (fun hHeld => ?_)
              clear hK K bb e0 f0
              generalize wm47.setCell ⟨wm42.heap.size, 0, none⟩ (.slice (some ⟨wm46.heap.size, 0, none⟩) 0 c) = wm48 at HBg hHeld ⊢
              (try simp only [Act.put, List.getElem_toArray, List.getElem_cons_succ, List.getElem_cons_zero, List.setIfInBounds_toArray, List.set_cons_succ, List.set_cons_zero])
              have bb := (HBg.out.b3 _ rfl)
              have e0 := bb.row 0 (by decide)
              have f0 := bb.fz 0 (by decide)
              have HLAI := Hid.mk' (HBg.out.lai rfl rfl rfl rfl HKB.out)
              clear bb
              refine wpAnyH_done (by kernel_rfl) ?_ _
              refine ahead_last rfl (fun K hK => ?_)
              go_simp
              refine hK _ _ ?_
              clear hK K
              go_wp2_with fail
              go_meet
              exact ⟨_, _, _, _, rfl, rfl, HLAI.out⟩
            exact AllReadyH.nil
          exact AllReadyH.nil
        exact AllReadyH.nil
      exact AllReadyH.nil
    refine AllReadyH.cons (i := 4) (rs := [5]) rfl (fun K hK => ?_) ?_
    · go_simp
      have HBg := Hid.mk' (HBg.out.add2 28)
      refine hK.out _ _ HBg.out.ck (fun hHeld => ?_)
      clear hK K
      generalize Wd.alloc (.cells #[.slice none 0 0] 28) = wm49 at HBg hHeld ⊢
      (try simp only [Act.put, List.getElem_toArray, List.getElem_cons_succ, List.getElem_cons_zero, List.setIfInBounds_toArray, List.set_cons_succ, List.set_cons_zero])
      refine wpAnyH_ready (rs := [1, 3, 5]) (by kernel_rfl) (by simp) ?_
      refine AllReadyH.cons (i := 1) (rs := [3, 5]) rfl (fun K hK => ?_) ?_
      · refine tstep_room _ rfl _ _ _ rfl 35 i0 _ Tryd.underlying28 HINF.out.1 HINF.out.2.1 HINF.out.2.2.1 c rfl rfl (by rw [HINF.out.2.2.2]; omega) (by unfold maxLen; omega) ?_
        intro wm50 hown hgrow
        have HBg := Hid.mk' (HBg.out.add0 hown hgrow)
        refine hK.out _ _ HBg.out.ck (fun hHeld => ?_)
        clear hK K hown hgrow
        simp only [Act.put, List.getElem_toArray, List.getElem_cons_succ, List.getElem_cons_zero, List.setIfInBounds_toArray, List.set_cons_succ, List.set_cons_zero]
        refine wpAnyH_ready (rs := [3, 5]) (by kernel_rfl) (by simp) ?_
        refine AllReadyH.cons (i := 3) (rs := [5]) rfl (fun K hK => ?_) ?_
        · refine tstep_make _ rfl _ _ _ rfl 3 i1 _ Tryd.underlying35 HINI.out.1 HINI.out.2.1 HINI.out.2.2.1 k1 rfl rfl (by rw [HINI.out.2.2.2]; omega) (by unfold maxLen; omega) ?_
          intro wm51 hown hgrow
          have HBg := Hid.mk' (HBg.out.add1 hown hgrow)
          refine hK.out _ _ HBg.out.ck (fun hHeld => ?_)
          clear hK K hown hgrow
          simp only [Act.put, List.getElem_toArray, List.getElem_cons_succ, List.getElem_cons_zero, List.setIfInBounds_toArray, List.set_cons_succ, List.set_cons_zero]
          refine wpAnyH_ready (rs := [5]) (by kernel_rfl) (by simp) ?_
          refine AllReadyH.cons (i := 5) (rs := []) rfl (fun K hK => ?_) ?_
          · go_simp
            have HBg := Hid.mk' (HBg.out.add3 35)
            refine hK.out _ _ HBg.out.ck (fun hHeld => ?_)
            clear hK K
            generalize wm51.alloc (.cells #[.slice none 0 0] 35) = wm52 at HBg hHeld ⊢
            (try simp only [Act.put, List.getElem_toArray, List.getElem_cons_succ, List.getElem_cons_zero, List.setIfInBounds_toArray, List.set_cons_succ, List.set_cons_zero])
            refine wpAnyH_ready (rs := [6]) (by kernel_rfl) (by simp) ?_
            refine AllReadyH.cons (i := 6) (rs := []) rfl (fun K hK => ?_) ?_
            · have bb := (HBg.out.b2 _ rfl)
              have e0 := bb.row 0 (by decide)
              have f0 := bb.fz 0 (by decide)
              have HBg := Hid.mk' (HBg.out.store rfl HKB.out (.slice (some ⟨wm49.heap.size, 0, none⟩) 0 c))
              go_simp
              refine hK.out _ _ HBg.out.ck (fun hHeld => ?_)
              clear hK K bb e0 f0
              generalize wm52.setCell ⟨Wd.heap.size, 0, none⟩ (.slice (some ⟨wm49.heap.size, 0, none⟩) 0 c) = wm53 at HBg hHeld ⊢
              (try simp only [Act.put, List.getElem_toArray, List.getElem_cons_succ, List.getElem_cons_zero, List.setIfInBounds_toArray, List.set_cons_succ, List.set_cons_zero])
              have bb := (HBg.out.b3 _ rfl)
              have e0 := bb.row 0 (by decide)
              have f0 := bb.fz 0 (by decide)
              have HLAI := Hid.mk' (HBg.out.lai rfl rfl rfl rfl HKB.out)
              clear bb
              refine wpAnyH_done (by kernel_rfl) ?_ _
              refine ahead_last rfl (fun K hK => ?_)
              go_simp
              refine hK _ _ ?_
              clear hK K
              go_wp2_with fail
              go_meet
              exact ⟨_, _, _, _, rfl, rfl, HLAI.out⟩
            exact AllReadyH.nil
          exact AllReadyH.nil
        refine AllReadyH.cons (i := 5) (rs := []) rfl (fun K hK => ?_) ?_
        · go_simp
          have HBg := Hid.mk' (HBg.out.add3 35)
          refine hK.out _ _ HBg.out.ck (fun hHeld => ?_)
          clear hK K
          generalize wm50.alloc (.cells #[.slice none 0 0] 35) = wm54 at HBg hHeld ⊢
          (try simp only [Act.put, List.getElem_toArray, List.getElem_cons_succ, List.getElem_cons_zero, List.setIfInBounds_toArray, List.set_cons_succ, List.set_cons_zero])
          refine wpAnyH_ready (rs := [3, 6]) (by kernel_rfl) (by simp) ?_
          refine AllReadyH.cons (i := 3) (rs := [6]) rfl (fun K hK => ?_) ?_
          · refine tstep_make _ rfl _ _ _ rfl 3 i1 _ Tryd.underlying35 HINI.out.1 HINI.out.2.1 HINI.out.2.2.1 k1 rfl rfl (by rw [HINI.out.2.2.2]; omega) (by unfold maxLen; omega) ?_
            intro wm55 hown hgrow
            have HBg := Hid.mk' (HBg.out.add1 hown hgrow)
            refine hK.out _ _ HBg.out.ck (fun hHeld => ?_)
            clear hK K hown hgrow
            simp only [Act.put, List.getElem_toArray, List.getElem_cons_succ, List.getElem_cons_zero, List.setIfInBounds_toArray, List.set_cons_succ, List.set_cons_zero]
            refine wpAnyH_ready (rs := [6]) (by kernel_rfl) (by simp) ?_
            refine AllReadyH.cons (i := 6) (rs := []) rfl (fun K hK => ?_) ?_
            · have bb := (HBg.out.b2 _ rfl)
              have e0 := bb.row 0 (by decide)
              have f0 := bb.fz 0 (by decide)
              have HBg := Hid.mk' (HBg.out.store rfl HKB.out (.slice (some ⟨wm49.heap.size, 0, none⟩) 0 c))
              go_simp
              refine hK.out _ _ HBg.out.ck (fun hHeld => ?_)
              clear hK K bb e0 f0
              generalize wm55.setCell ⟨Wd.heap.size, 0, none⟩ (.slice (some ⟨wm49.heap.size, 0, none⟩) 0 c) = wm56 at HBg hHeld ⊢
              (try simp only [Act.put, List.getElem_toArray, List.getElem_cons_succ, List.getElem_cons_zero, List.setIfInBounds_toArray, List.set_cons_succ, List.set_cons_zero])
              have bb := (HBg.out.b3 _ rfl)
              have e0 := bb.row 0 (by decide)
              have f0 := bb.fz 0 (by decide)
              have HLAI := Hid.mk' (HBg.out.lai rfl rfl rfl rfl HKB.out)
              clear bb
              refine wpAnyH_done (by kernel_rfl) ?_ _
              refine ahead_last rfl (fun K hK => ?_)
              go_simp
              refine hK _ _ ?_
              clear hK K
              go_wp2_with fail
              go_meet
              exact ⟨_, _, _, _, rfl, rfl, HLAI.out⟩
            exact AllReadyH.nil
          refine AllReadyH.cons (i := 6) (rs := []) rfl (fun K hK => ?_) ?_
          · have bb := (HBg.out.b2 _ rfl)
            have e0 := bb.row 0 (by decide)
            have f0 := bb.fz 0 (by decide)
            have HBg := Hid.mk' (HBg.out.store rfl HKB.out (.slice (some ⟨wm49.heap.size, 0, none⟩) 0 c))
            go_simp
            refine hK.out _ _ HBg.out.ck (fun hHeld => ?_)
            clear hK K bb e0 f0
            generalize wm54.setCell ⟨Wd.heap.size, 0, none⟩ (.slice (some ⟨wm49.heap.size, 0, none⟩) 0 c) = wm57 at HBg hHeld ⊢
            (try simp only [Act.put, List.getElem_toArray, List.getElem_cons_succ, List.getElem_cons_zero, List.setIfInBounds_toArray, List.set_cons_succ, List.set_cons_zero])
            refine wpAnyH_ready (rs := [3]) (by kernel_rfl) (by simp) ?_
            refine AllReadyH.cons (i := 3) (rs := []) rfl (fun K hK => ?_) ?_
            · refine tstep_make _ rfl _ _ _ rfl 3 i1 _ Tryd.underlying35 HINI.out.1 HINI.out.2.1 HINI.out.2.2.1 k1 rfl rfl (by rw [HINI.out.2.2.2]; omega) (by unfold maxLen; omega) ?_
              intro wm58 hown hgrow
              have HBg := Hid.mk' (HBg.out.add1 hown hgrow)
              refine hK.out _ _ HBg.out.ck (fun hHeld => ?_)
              clear hK K hown hgrow
              simp only [Act.put, List.getElem_toArray, List.getElem_cons_succ, List.getElem_cons_zero, List.setIfInBounds_toArray, List.set_cons_succ, List.set_cons_zero]
              have bb := (HBg.out.b3 _ rfl)
              have e0 := bb.row 0 (by decide)
              have f0 := bb.fz 0 (by decide)
              have HLAI := Hid.mk' (HBg.out.lai rfl rfl rfl rfl HKB.out)
              clear bb
              refine wpAnyH_done (by kernel_rfl) ?_ _
              refine ahead_last rfl (fun K hK => ?_)
              go_simp
              refine hK _ _ ?_
              clear hK K
              go_wp2_with fail
              go_meet
              exact ⟨_, _, _, _, rfl, rfl, HLAI.out⟩
            exact AllReadyH.nil
          exact AllReadyH.nil
        exact AllReadyH.nil
      refine AllReadyH.cons (i := 3) (rs := [5]) rfl (fun K hK => ?_) ?_
      · refine tstep_make _ rfl _ _ _ rfl 3 i1 _ Tryd.underlying35 HINI.out.1 HINI.out.2.1 HINI.out.2.2.1 k1 rfl rfl (by rw [HINI.out.2.2.2]; omega) (by unfold maxLen; omega) ?_
        intro wm59 hown hgrow
        have HBg := Hid.mk' (HBg.out.add1 hown hgrow)
        refine hK.out _ _ HBg.out.ck (fun hHeld => ?_)
        clear hK K hown hgrow
        simp only [Act.put, List.getElem_toArray, List.getElem_cons_succ, List.getElem_cons_zero, List.setIfInBounds_toArray, List.set_cons_succ, List.set_cons_zero]
        refine wpAnyH_ready (rs := [1, 5]) (by kernel_rfl) (by simp) ?_
        refine AllReadyH.cons (i := 1) (rs := [5]) rfl (fun K hK => ?_) ?_
        · refine tstep_room _ rfl _ _ _ rfl 35 i0 _ Tryd.underlying28 HINF.out.1 HINF.out.2.1 HINF.out.2.2.1 c rfl rfl (by rw [HINF.out.2.2.2]; omega) (by unfold maxLen; omega) ?_
          intro wm60 hown hgrow
          have HBg := Hid.mk' (HBg.out.add0 hown hgrow)
          refine hK.out _ _ HBg.out.ck (fun hHeld => ?_)
          clear hK K hown hgrow
          simp only [Act.put, List.getElem_toArray, List.getElem_cons_succ, List.getElem_cons_zero, List.setIfInBounds_toArray, List.set_cons_succ, List.set_cons_zero]
          refine wpAnyH_ready (rs := [5]) (by kernel_rfl) (by simp) ?_
          refine AllReadyH.cons (i := 5) (rs := []) rfl (fun K hK => ?_) ?_
          · go_simp
            have HBg := Hid.mk' (HBg.out.add3 35)
            refine hK.out _ _ HBg.out.ck (fun hHeld => ?_)
            clear hK K
            generalize wm60.alloc (.cells #[.slice none 0 0] 35) = wm61 at HBg hHeld ⊢
            (try simp only [Act.put, List.getElem_toArray, List.getElem_cons_succ, List.getElem_cons_zero, List.setIfInBounds_toArray, List.set_cons_succ, List.set_cons_zero])
            refine wpAnyH_ready (rs := [6]) (by kernel_rfl) (by simp) ?_
            refine AllReadyH.cons (i := 6) (rs := []) rfl (fun K hK => ?_) ?_
            · have bb := (HBg.out.b2 _ rfl)
              have e0 := bb.row 0 (by decide)
              have f0 := bb.fz 0 (by decide)
              have HBg := Hid.mk' (HBg.out.store rfl HKB.out (.slice (some ⟨wm59.heap.size, 0, none⟩) 0 c))
              go_simp
              refine hK.out _ _ HBg.out.ck (fun hHeld => ?_)
              clear hK K bb e0 f0
              generalize wm61.setCell ⟨Wd.heap.size, 0, none⟩ (.slice (some ⟨wm59.heap.size, 0, none⟩) 0 c) = wm62 at HBg hHeld ⊢
              (try simp only [Act.put, List.getElem_toArray, List.getElem_cons_succ, List.getElem_cons_zero, List.setIfInBounds_toArray, List.set_cons_succ, List.set_cons_zero])
              have bb := (HBg.out.b3 _ rfl)
              have e0 := bb.row 0 (by decide)
              have f0 := bb.fz 0 (by decide)
              have HLAI := Hid.mk' (HBg.out.lai rfl rfl rfl rfl HKB.out)
              clear bb
              refine wpAnyH_done (by kernel_rfl) ?_ _
              refine ahead_last rfl (fun K hK => ?_)
              go_simp
              refine hK _ _ ?_
              clear hK K
              go_wp2_with fail
              go_meet
              exact ⟨_, _, _, _, rfl, rfl, HLAI.out⟩
            exact AllReadyH.nil
          exact AllReadyH.nil
        refine AllReadyH.cons (i := 5) (rs := []) rfl (fun K hK => ?_) ?_
        · go_simp
          have HBg := Hid.mk' (HBg.out.add3 35)
          refine hK.out _ _ HBg.out.ck (fun hHeld => ?_)
          clear hK K
          generalize wm59.alloc (.cells #[.slice none 0 0] 35) = wm63 at HBg hHeld ⊢
          (try simp only [Act.put, List.getElem_toArray, List.getElem_cons_succ, List.getElem_cons_zero, List.setIfInBounds_toArray, List.set_cons_succ, List.set_cons_zero])
          refine wpAnyH_ready (rs := [1]) (by kernel_rfl) (by simp) ?_
          refine AllReadyH.cons (i := 1) (rs := []) rfl (fun K hK => ?_) ?_
          · refine tstep_room _ rfl _ _ _ rfl 35 i0 _ Tryd.underlying28 HINF.out.1 HINF.out.2.1 HINF.out.2.2.1 c rfl rfl (by rw [HINF.out.2.2.2]; omega) (by unfold maxLen; omega) ?_
            intro wm64 hown hgrow
            have HBg := Hid.mk' (HBg.out.add0 hown hgrow)
            refine hK.out _ _ HBg.out.ck (fun hHeld => ?_)
            clear hK K hown hgrow
            simp only [Act.put, List.getElem_toArray, List.getElem_cons_succ, List.getElem_cons_zero, List.setIfInBounds_toArray, List.set_cons_succ, List.set_cons_zero]
            refine wpAnyH_ready (rs := [6]) (by kernel_rfl) (by simp) ?_
            refine AllReadyH.cons (i := 6) (rs := []) rfl (fun K hK => ?_) ?_
            · have bb := (HBg.out.b2 _ rfl)
              have e0 := bb.row 0 (by decide)
              have f0 := bb.fz 0 (by decide)
              have HBg := Hid.mk' (HBg.out.store rfl HKB.out (.slice (some ⟨wm63.heap.size, 0, none⟩) 0 c))
              go_simp
              refine hK.out _ _ HBg.out.ck (fun hHeld => ?_)
              clear hK K bb e0 f0
              generalize wm64.setCell ⟨Wd.heap.size, 0, none⟩ (.slice (some ⟨wm63.heap.size, 0, none⟩) 0 c) = wm65 at HBg hHeld ⊢
              (try simp only [Act.put, List.getElem_toArray, List.getElem_cons_succ, List.getElem_cons_zero, List.setIfInBounds_toArray, List.set_cons_succ, List.set_cons_zero])
              have bb := (HBg.out.b3 _ rfl)
              have e0 := bb.row 0 (by decide)
              have f0 := bb.fz 0 (by decide)
              have HLAI := Hid.mk' (HBg.out.lai rfl rfl rfl rfl HKB.out)
              clear bb
              refine wpAnyH_done (by kernel_rfl) ?_ _
              refine ahead_last rfl (fun K hK => ?_)
              go_simp
              refine hK _ _ ?_
              clear hK K
              go_wp2_with fail
              go_meet
              exact ⟨_, _, _, _, rfl, rfl, HLAI.out⟩
            exact AllReadyH.nil
          exact AllReadyH.nil
        exact AllReadyH.nil
      refine AllReadyH.cons (i := 5) (rs := []) rfl (fun K hK => ?_) ?_
      · go_simp
        have HBg := Hid.mk' (HBg.out.add3 35)
        refine hK.out _ _ HBg.out.ck (fun hHeld => ?_)
        clear hK K
        generalize wm49.alloc (.cells #[.slice none 0 0] 35) = wm66 at HBg hHeld ⊢
        (try simp only [Act.put, List.getElem_toArray, List.getElem_cons_succ, List.getElem_cons_zero, List.setIfInBounds_toArray, List.set_cons_succ, List.set_cons_zero])
        refine wpAnyH_ready (rs := [1, 3]) (by kernel_rfl) (by simp) ?_
        refine AllReadyH.cons (i := 1) (rs := [3]) rfl (fun K hK => ?_) ?_
        · refine tstep_room _ rfl _ _ _ rfl 35 i0 _ Tryd.underlying28 HINF.out.1 HINF.out.2.1 HINF.out.2.2.1 c rfl rfl (by rw [HINF.out.2.2.2]; omega) (by unfold maxLen; omega) ?_
          intro wm67 hown hgrow
          have HBg := Hid.mk' (HBg.out.add0 hown hgrow)
          refine hK.out _ _ HBg.out.ck (fun hHeld => ?_)
          clear hK K hown hgrow
          simp only [Act.put, List.getElem_toArray, List.getElem_cons_succ, List.getElem_cons_zero, List.setIfInBounds_toArray, List.set_cons_succ, List.set_cons_zero]
          refine wpAnyH_ready (rs := [3, 6]) (by kernel_rfl) (by simp) ?_
          refine AllReadyH.cons (i := 3) (rs := [6]) rfl (fun K hK => ?_) ?_
          · refine tstep_make _ rfl _ _ _ rfl 3 i1 _ Tryd.underlying35 HINI.out.1 HINI.out.2.1 HINI.out.2.2.1 k1 rfl rfl (by rw [HINI.out.2.2.2]; omega) (by unfold maxLen; omega) ?_
            intro wm68 hown hgrow
            have HBg := Hid.mk' (HBg.out.add1 hown hgrow)
            refine hK.out _ _ HBg.out.ck (fun hHeld => ?_)
            clear hK K hown hgrow
            simp only [Act.put, List.getElem_toArray, List.getElem_cons_succ, List.getElem_cons_zero, List.setIfInBounds_toArray, List.set_cons_succ, List.set_cons_zero]
            refine wpAnyH_ready (rs := [6]) (by kernel_rfl) (by simp) ?_
            refine AllReadyH.cons (i := 6) (rs := []) rfl (fun K hK => ?_) ?_
            · have bb := (HBg.out.b2 _ rfl)
              have e0 := bb.row 0 (by decide)
              have f0 := bb.fz 0 (by decide)
              have HBg := Hid.mk' (HBg.out.store rfl HKB.out (.slice (some ⟨wm66.heap.size, 0, none⟩) 0 c))
              go_simp
              refine hK.out _ _ HBg.out.ck (fun hHeld => ?_)
              clear hK K bb e0 f0
              generalize wm68.setCell ⟨Wd.heap.size, 0, none⟩ (.slice (some ⟨wm66.heap.size, 0, none⟩) 0 c) = wm69 at HBg hHeld ⊢
              (try simp only [Act.put, List.getElem_toArray, List.getElem_cons_succ, List.getElem_cons_zero, List.setIfInBounds_toArray, List.set_cons_succ, List.set_cons_zero])
              have bb := (HBg.out.b3 _ rfl)
              have e0 := bb.row 0 (by decide)
              have f0 := bb.fz 0 (by decide)
              have HLAI := Hid.mk' (HBg.out.lai rfl rfl rfl rfl HKB.out)
              clear bb
              refine wpAnyH_done (by kernel_rfl) ?_ _
              refine ahead_last rfl (fun K hK => ?_)
              go_simp
              refine hK _ _ ?_
              clear hK K
              go_wp2_with fail
              go_meet
              exact ⟨_, _, _, _, rfl, rfl, HLAI.out⟩
            exact AllReadyH.nil
          refine AllReadyH.cons (i := 6) (rs := []) rfl (fun K hK => ?_) ?_
          · have bb := (HBg.out.b2 _ rfl)
            have e0 := bb.row 0 (by decide)
            have f0 := bb.fz 0 (by decide)
            have HBg := Hid.mk' (HBg.out.store rfl HKB.out (.slice (some ⟨wm66.heap.size, 0, none⟩) 0 c))
            go_simp
            refine hK.out _ _ HBg.out.ck (fun hHeld => ?_)
            clear hK K bb e0 f0
            generalize wm67.setCell ⟨Wd.heap.size, 0, none⟩ (.slice (some ⟨wm66.heap.size, 0, none⟩) 0 c) = wm70 at HBg hHeld ⊢
            (try simp only [Act.put, List.getElem_toArray, List.getElem_cons_succ, List.getElem_cons_zero, List.setIfInBounds_toArray, List.set_cons_succ, List.set_cons_zero])
            refine wpAnyH_ready (rs := [3]) (by kernel_rfl) (by simp) ?_
            refine AllReadyH.cons (i := 3) (rs := []) rfl (fun K hK => ?_) ?_
            · refine tstep_make _ rfl _ _ _ rfl 3 i1 _ Tryd.underlying35 HINI.out.1 HINI.out.2.1 HINI.out.2.2.1 k1 rfl rfl (by rw [HINI.out.2.2.2]; omega) (by unfold maxLen; omega) ?_
              intro wm71 hown hgrow
              have HBg := Hid.mk' (HBg.out.add1 hown hgrow)
              refine hK.out _ _ HBg.out.ck (fun hHeld => ?_)
              clear hK K hown hgrow
              simp only [Act.put, List.getElem_toArray, List.getElem_cons_succ, List.getElem_cons_zero, List.setIfInBounds_toArray, List.set_cons_succ, List.set_cons_zero]
              have bb := (HBg.out.b3 _ rfl)
              have e0 := bb.row 0 (by decide)
              have f0 := bb.fz 0 (by decide)
              have HLAI := Hid.mk' (HBg.out.lai rfl rfl rfl rfl HKB.out)
              clear bb
              refine wpAnyH_done (by kernel_rfl) ?_ _
              refine ahead_last rfl (fun K hK => ?_)
              go_simp
              refine hK _ _ ?_
              clear hK K
              go_wp2_with fail
              go_meet
              exact ⟨_, _, _, _, rfl, rfl, HLAI.out⟩
            exact AllReadyH.nil
          exact AllReadyH.nil
        refine AllReadyH.cons (i := 3) (rs := []) rfl (fun K hK => ?_) ?_
        · refine tstep_make _ rfl _ _ _ rfl 3 i1 _ Tryd.underlying35 HINI.out.1 HINI.out.2.1 HINI.out.2.2.1 k1 rfl rfl (by rw [HINI.out.2.2.2]; omega) (by unfold maxLen; omega) ?_
          intro wm72 hown hgrow
          have HBg := Hid.mk' (HBg.out.add1 hown hgrow)
          refine hK.out _ _ HBg.out.ck (fun hHeld => ?_)
          clear hK K hown hgrow
          simp only [Act.put, List.getElem_toArray, List.getElem_cons_succ, List.getElem_cons_zero, List.setIfInBounds_toArray, List.set_cons_succ, List.set_cons_zero]
          refine wpAnyH_ready (rs := [1]) (by kernel_rfl) (by simp) ?_
          refine AllReadyH.cons (i := 1) (rs := []) rfl (fun K hK => ?_) ?_
          · refine tstep_room _ rfl _ _ _ rfl 35 i0 _ Tryd.underlying28 HINF.out.1 HINF.out.2.1 HINF.out.2.2.1 c rfl rfl (by rw [HINF.out.2.2.2]; omega) (by unfold maxLen; omega) ?_
            intro wm73 hown hgrow
            have HBg := Hid.mk' (HBg.out.add0 hown hgrow)
            refine hK.out _ _ HBg.out.ck (fun hHeld => ?_)
            clear hK K hown hgrow
            simp only [Act.put, List.getElem_toArray, List.getElem_cons_succ, List.getElem_cons_zero, List.setIfInBounds_toArray, List.set_cons_succ, List.set_cons_zero]
            refine wpAnyH_ready (rs := [6]) (by kernel_rfl) (by simp) ?_
            refine AllReadyH.cons (i := 6) (rs := []) rfl (fun K hK => ?_) ?_
            · have bb := (HBg.out.b2 _ rfl)
              have e0 := bb.row 0 (by decide)
              have f0 := bb.fz 0 (by decide)
              have HBg := Hid.mk' (HBg.out.store rfl HKB.out (.slice (some ⟨wm72.heap.size, 0, none⟩) 0 c))
              go_simp
              refine hK.out _ _ HBg.out.ck (fun hHeld => ?_)
              clear hK K bb e0 f0
              generalize wm73.setCell ⟨Wd.heap.size, 0, none⟩ (.slice (some ⟨wm72.heap.size, 0, none⟩) 0 c) = wm74 at HBg hHeld ⊢
              (try simp only [Act.put, List.getElem_toArray, List.getElem_cons_succ, List.getElem_cons_zero, List.setIfInBounds_toArray, List.set_cons_succ, List.set_cons_zero])
              have bb := (HBg.out.b3 _ rfl)
              have e0 := bb.row 0 (by decide)
              have f0 := bb.fz 0 (by decide)
              have HLAI := Hid.mk' (HBg.out.lai rfl rfl rfl rfl HKB.out)
              clear bb
              refine wpAnyH_done (by kernel_rfl) ?_ _
              refine ahead_last rfl (fun K hK => ?_)
              go_simp
              refine hK _ _ ?_
              clear hK K
              go_wp2_with fail
              go_meet
              exact ⟨_, _, _, _, rfl, rfl, HLAI.out⟩
            exact AllReadyH.nil
          exact AllReadyH.nil
        exact AllReadyH.nil
      exact AllReadyH.nil
    refine AllReadyH.cons (i := 5) (rs := []) rfl (fun K hK => ?_) ?_
    · go_simp
      have HBg := Hid.mk' (HBg.out.add3 35)
      refine hK.out _ _ HBg.out.ck (fun hHeld => ?_)
      clear hK K
      generalize Wd.alloc (.cells #[.slice none 0 0] 35) = wm75 at HBg hHeld ⊢
      (try simp only [Act.put, List.getElem_toArray, List.getElem_cons_succ, List.getElem_cons_zero, List.setIfInBounds_toArray, List.set_cons_succ, List.set_cons_zero])
      refine wpAnyH_ready (rs := [1, 3, 4]) (by kernel_rfl) (by simp) ?_
      refine AllReadyH.cons (i := 1) (rs := [3, 4]) rfl (fun K hK => ?_) ?_
      · refine tstep_room _ rfl _ _ _ rfl 35 i0 _ Tryd.underlying28 HINF.out.1 HINF.out.2.1 HINF.out.2.2.1 c rfl rfl (by rw [HINF.out.2.2.2]; omega) (by unfold maxLen; omega) ?_
        intro wm76 hown hgrow
        have HBg := Hid.mk' (HBg.out.add0 hown hgrow)
        refine hK.out _ _ HBg.out.ck (fun hHeld => ?_)
        clear hK K hown hgrow
        simp only [Act.put, List.getElem_toArray, List.getElem_cons_succ, List.getElem_cons_zero, List.setIfInBounds_toArray, List.set_cons_succ, List.set_cons_zero]
        refine wpAnyH_ready (rs := [3, 4]) (by kernel_rfl) (by simp) ?_
        refine AllReadyH.cons (i := 3) (rs := [4]) rfl (fun K hK => ?_) ?_
        · refine tstep_make _ rfl _ _ _ rfl 3 i1 _ Tryd.underlying35 HINI.out.1 HINI.out.2.1 HINI.out.2.2.1 k1 rfl rfl (by rw [HINI.out.2.2.2]; omega) (by unfold maxLen; omega) ?_
          intro wm77 hown hgrow
          have HBg := Hid.mk' (HBg.out.add1 hown hgrow)
          refine hK.out _ _ HBg.out.ck (fun hHeld => ?_)
          clear hK K hown hgrow
          simp only [Act.put, List.getElem_toArray, List.getElem_cons_succ, List.getElem_cons_zero, List.setIfInBounds_toArray, List.set_cons_succ, List.set_cons_zero]
          refine wpAnyH_ready (rs := [4]) (by kernel_rfl) (by simp) ?_
          refine AllReadyH.cons (i := 4) (rs := []) rfl (fun K hK => ?_) ?_
          · go_simp
            have HBg := Hid.mk' (HBg.out.add2 28)
            refine hK.out _ _ HBg.out.ck (fun hHeld => ?_)
            clear hK K
            generalize wm77.alloc (.cells #[.slice none 0 0] 28) = wm78 at HBg hHeld ⊢
            (try simp only [Act.put, List.getElem_toArray, List.getElem_cons_succ, List.getElem_cons_zero, List.setIfInBounds_toArray, List.set_cons_succ, List.set_cons_zero])
            refine wpAnyH_ready (rs := [6]) (by kernel_rfl) (by simp) ?_
            refine AllReadyH.cons (i := 6) (rs := []) rfl (fun K hK => ?_) ?_
            · have bb := (HBg.out.b2 _ rfl)
              have e0 := bb.row 0 (by decide)
              have f0 := bb.fz 0 (by decide)
              have HBg := Hid.mk' (HBg.out.store rfl HKB.out (.slice (some ⟨wm75.heap.size, 0, none⟩) 0 c))
              go_simp
              refine hK.out _ _ HBg.out.ck (fun hHeld => ?_)
              clear hK K bb e0 f0
              generalize wm78.setCell ⟨wm77.heap.size, 0, none⟩ (.slice (some ⟨wm75.heap.size, 0, none⟩) 0 c) = wm79 at HBg hHeld ⊢
              (try simp only [Act.put, List.getElem_toArray, List.getElem_cons_succ, List.getElem_cons_zero, List.setIfInBounds_toArray, List.set_cons_succ, List.set_cons_zero])
              have bb := (HBg.out.b3 _ rfl)
              have e0 := bb.row 0 (by decide)
              have f0 := bb.fz 0 (by decide)
              have HLAI := Hid.mk' (HBg.out.lai rfl rfl rfl rfl HKB.out)
              clear bb
              refine wpAnyH_done (by kernel_rfl) ?_ _
              refine ahead_last rfl (fun K hK => ?_)
              go_simp
              refine hK _ _ ?_
              clear hK K
              go_wp2_with fail
              go_meet
              exact ⟨_, _, _, _, rfl, rfl, HLAI.out⟩
            exact AllReadyH.nil
          exact AllReadyH.nil
        refine AllReadyH.cons (i := 4) (rs := []) rfl (fun K hK => ?_) ?_
        · go_simp
          have HBg := Hid.mk' (HBg.out.add2 28)
          refine hK.out _ _ HBg.out.ck (fun hHeld => ?_)
          clear hK K
          generalize wm76.alloc (.cells #[.slice none 0 0] 28) = wm80 at HBg hHeld ⊢
          (try simp only [Act.put, List.getElem_toArray, List.getElem_cons_succ, List.getElem_cons_zero, List.setIfInBounds_toArray, List.set_cons_succ, List.set_cons_zero])
          refine wpAnyH_ready (rs := [3, 6]) (by kernel_rfl) (by simp) ?_
          refine AllReadyH.cons (i := 3) (rs := [6]) rfl (fun K hK => ?_) ?_
          · refine tstep_make _ rfl _ _ _ rfl 3 i1 _ Tryd.underlying35 HINI.out.1 HINI.out.2.1 HINI.out.2.2.1 k1 rfl rfl (by rw [HINI.out.2.2.2]; omega) (by unfold maxLen; omega) ?_
            intro wm81 hown hgrow
            have HBg := Hid.mk' (HBg.out.add1 hown hgrow)
            refine hK.out _ _ HBg.out.ck (fun hHeld => ?_)
            clear hK K hown hgrow
            simp only [Act.put, List.getElem_toArray, List.getElem_cons_succ, List.getElem_cons_zero, List.setIfInBounds_toArray, List.set_cons_succ, List.set_cons_zero]
            refine wpAnyH_ready (rs := [6]) (by kernel_rfl) (by simp) ?_
            refine AllReadyH.cons (i := 6) (rs := []) rfl (fun K hK => ?_) ?_
            · have bb := (HBg.out.b2 _ rfl)
              have e0 := bb.row 0 (by decide)
              have f0 := bb.fz 0 (by decide)
              have HBg := Hid.mk' (HBg.out.store rfl HKB.out (.slice (some ⟨wm75.heap.size, 0, none⟩) 0 c))
              go_simp
              refine hK.out _ _ HBg.out.ck (fun hHeld => ?_)
              clear hK K bb e0 f0
              generalize wm81.setCell ⟨wm76.heap.size, 0, none⟩ (.slice (some ⟨wm75.heap.size, 0, none⟩) 0 c) = wm82 at HBg hHeld ⊢
              (try simp only [Act.put, List.getElem_toArray, List.getElem_cons_succ, List.getElem_cons_zero, List.setIfInBounds_toArray, List.set_cons_succ, List.set_cons_zero])
              have bb := (HBg.out.b3 _ rfl)
              have e0 := bb.row 0 (by decide)
              have f0 := bb.fz 0 (by decide)
              have HLAI := Hid.mk' (HBg.out.lai rfl rfl rfl rfl HKB.out)
              clear bb
              refine wpAnyH_done (by kernel_rfl) ?_ _
              refine ahead_last rfl (fun K hK => ?_)
              go_simp
              refine hK _ _ ?_
              clear hK K
              go_wp2_with fail
              go_meet
              exact ⟨_, _, _, _, rfl, rfl, HLAI.out⟩
            exact AllReadyH.nil
          refine AllReadyH.cons (i := 6) (rs := []) rfl (fun K hK => ?_) ?_
          · have bb := (HBg.out.b2 _ rfl)
            have e0 := bb.row 0 (by decide)
            have f0 := bb.fz 0 (by decide)
            have HBg := Hid.mk' (HBg.out.store rfl HKB.out (.slice (some ⟨wm75.heap.size, 0, none⟩) 0 c))
            go_simp
            refine hK.out _ _ HBg.out.ck (fun hHeld => ?_)
            clear hK K bb e0 f0
            generalize wm80.setCell ⟨wm76.heap.size, 0, none⟩ (.slice (some ⟨wm75.heap.size, 0, none⟩) 0 c) = wm83 at HBg hHeld ⊢
            (try simp only [Act.put, List.getElem_toArray, List.getElem_cons_succ, List.getElem_cons_zero, List.setIfInBounds_toArray, List.set_cons_succ, List.set_cons_zero])
            refine wpAnyH_ready (rs := [3]) (by kernel_rfl) (by simp) ?_
            refine AllReadyH.cons (i := 3) (rs := []) rfl (fun K hK => ?_) ?_
            · refine tstep_make _ rfl _ _ _ rfl 3 i1 _ Tryd.underlying35 HINI.out.1 HINI.out.2.1 HINI.out.2.2.1 k1 rfl rfl (by rw [HINI.out.2.2.2]; omega) (by unfold maxLen; omega) ?_
              intro wm84 hown hgrow
              have HBg := Hid.mk' (HBg.out.add1 hown hgrow)
              refine hK.out _ _ HBg.out.ck (fun hHeld => ?_)
              clear hK K hown hgrow
              simp only [Act.put, List.getElem_toArray, List.getElem_cons_succ, List.getElem_cons_zero, List.setIfInBounds_toArray, List.set_cons_succ, List.set_cons_zero]
              have bb := (HBg.out.b3 _ rfl)
              have e0 := bb.row 0 (by decide)
              have f0 := bb.fz 0 (by decide)
              have HLAI := Hid.mk' (HBg.out.lai rfl rfl rfl rfl HKB.out)
              clear bb
              refine wpAnyH_done (by kernel_rfl) ?_ _
              refine ahead_last rfl (fun K hK => ?_)
              go_simp
              refine hK _ _ ?_
              clear hK K
              go_wp2_with fail
              go_meet
              exact ⟨_, _, _, _, rfl, rfl, HLAI.out⟩
            exact AllReadyH.nil
          exact AllReadyH.nil
        exact AllReadyH.nil
      refine AllReadyH.cons (i := 3) (rs := [4]) rfl (fun K hK => ?_) ?_
      · refine tstep_make _ rfl _ _ _ rfl 3 i1 _ Tryd.underlying35 HINI.out.1 HINI.out.2.1 HINI.out.2.2.1 k1 rfl rfl (by rw [HINI.out.2.2.2]; omega) (by unfold maxLen; omega) ?_
        intro wm85 hown hgrow
        have HBg := Hid.mk' (HBg.out.add1 hown hgrow)
        refine hK.out _ _ HBg.out.ck (fun hHeld => ?_)
        clear hK K hown hgrow
        simp only [Act.put, List.getElem_toArray, List.getElem_cons_succ, List.getElem_cons_zero, List.setIfInBounds_toArray, List.set_cons_succ, List.set_cons_zero]
        refine wpAnyH_ready (rs := [1, 4]) (by kernel_rfl) (by simp) ?_
        refine AllReadyH.cons (i := 1) (rs := [4]) rfl (fun K hK => ?_) ?_
        · refine tstep_room _ rfl _ _ _ rfl 35 i0 _ Tryd.underlying28 HINF.out.1 HINF.out.2.1 HINF.out.2.2.1 c rfl rfl (by rw [HINF.out.2.2.2]; omega) (by unfold maxLen; omega) ?_
          intro wm86 hown hgrow
          have HBg := Hid.mk' (HBg.out.add0 hown hgrow)
          refine hK.out _ _ HBg.out.ck (fun hHeld => ?_)
          clear hK K hown hgrow
          simp only [Act.put, List.getElem_toArray, List.getElem_cons_succ, List.getElem_cons_zero, List.setIfInBounds_toArray, List.set_cons_succ, List.set_cons_zero]
          refine wpAnyH_ready (rs := [4]) (by kernel_rfl) (by simp) ?_
          refine AllReadyH.cons (i := 4) (rs := []) rfl (fun K hK => ?_) ?_
          · go_simp
            have HBg := Hid.mk' (HBg.out.add2 28)
            refine hK.out _ _ HBg.out.ck (fun hHeld => ?_)
            clear hK K
            generalize wm86.alloc (.cells #[.slice none 0 0] 28) = wm87 at HBg hHeld ⊢
            (try simp only [Act.put, List.getElem_toArray, List.getElem_cons_succ, List.getElem_cons_zero, List.setIfInBounds_toArray, List.set_cons_succ, List.set_cons_zero])
            refine wpAnyH_ready (rs := [6]) (by kernel_rfl) (by simp) ?_
            refine AllReadyH.cons (i := 6) (rs := []) rfl (fun K hK => ?_) ?_
            · have bb := (HBg.out.b2 _ rfl)
              have e0 := bb.row 0 (by decide)
              have f0 := bb.fz 0 (by decide)
              have HBg := Hid.mk' (HBg.out.store rfl HKB.out (.slice (some ⟨wm85.heap.size, 0, none⟩) 0 c))
              go_simp
              refine hK.out _ _ HBg.out.ck (fun hHeld => ?_)
              clear hK K bb e0 f0
              generalize wm87.setCell ⟨wm86.heap.size, 0, none⟩ (.slice (some ⟨wm85.heap.size, 0, none⟩) 0 c) = wm88 at HBg hHeld ⊢
              (try simp only [Act.put, List.getElem_toArray, List.getElem_cons_succ, List.getElem_cons_zero, List.setIfInBounds_toArray, List.set_cons_succ, List.set_cons_zero])
              have bb := (HBg.out.b3 _ rfl)
              have e0 := bb.row 0 (by decide)
              have f0 := bb.fz 0 (by decide)
              have HLAI := Hid.mk' (HBg.out.lai rfl rfl rfl rfl HKB.out)
              clear bb
              refine wpAnyH_done (by kernel_rfl) ?_ _
              refine ahead_last rfl (fun K hK => ?_)
              go_simp
              refine hK _ _ ?_
              clear hK K
              go_wp2_with fail
              go_meet
              exact ⟨_, _, _, _, rfl, rfl, HLAI.out⟩
            exact AllReadyH.nil
          exact AllReadyH.nil
        refine AllReadyH.cons (i := 4) (rs := []) rfl (fun K hK => ?_) ?_
        · go_simp
          have HBg := Hid.mk' (HBg.out.add2 28)
          refine hK.out _ _ HBg.out.ck (fun hHeld => ?_)
          clear hK K
          generalize wm85.alloc (.cells #[.slice none 0 0] 28) = wm89 at HBg hHeld ⊢
          (try simp only [Act.put, List.getElem_toArray, List.getElem_cons_succ, List.getElem_cons_zero, List.setIfInBounds_toArray, List.set_cons_succ, List.set_cons_zero])
          refine wpAnyH_ready (rs := [1]) (by kernel_rfl) (by simp) ?_
          refine AllReadyH.cons (i := 1) (rs := []) rfl (fun K hK => ?_) ?_
          · refine tstep_room _ rfl _ _ _ rfl 35 i0 _ Tryd.underlying28 HINF.out.1 HINF.out.2.1 HINF.out.2.2.1 c rfl rfl (by rw [HINF.out.2.2.2]; omega) (by unfold maxLen; omega) ?_
            intro wm90 hown hgrow
            have HBg := Hid.mk' (HBg.out.add0 hown hgrow)
            refine hK.out _ _ HBg.out.ck (fun hHeld => ?_)
            clear hK K hown hgrow
            simp only [Act.put, List.getElem_toArray, List.getElem_cons_succ, List.getElem_cons_zero, List.setIfInBounds_toArray, List.set_cons_succ, List.set_cons_zero]
            refine wpAnyH_ready (rs := [6]) (by kernel_rfl) (by simp) ?_
            refine AllReadyH.cons (i := 6) (rs := []) rfl (fun K hK => ?_) ?_
            · have bb := (HBg.out.b2 _ rfl)
              have e0 := bb.row 0 (by decide)
              have f0 := bb.fz 0 (by decide)
              have HBg := Hid.mk' (HBg.out.store rfl HKB.out (.slice (some ⟨wm89.heap.size, 0, none⟩) 0 c))
              go_simp
              refine hK.out _ _ HBg.out.ck (fun hHeld => ?_)
              clear hK K bb e0 f0
              generalize wm90.setCell ⟨wm85.heap.size, 0, none⟩ (.slice (some ⟨wm89.heap.size, 0, none⟩) 0 c) = wm91 at HBg hHeld ⊢
              (try simp only [Act.put, List.getElem_toArray, List.getElem_cons_succ, List.getElem_cons_zero, List.setIfInBounds_toArray, List.set_cons_succ, List.set_cons_zero])
              have bb := (HBg.out.b3 _ rfl)
              have e0 := bb.row 0 (by decide)
              have f0 := bb.fz 0 (by decide)
              have HLAI := Hid.mk' (HBg.out.lai rfl rfl rfl rfl HKB.out)
              clear bb
              refine wpAnyH_done (by kernel_rfl) ?_ _
              refine ahead_last rfl (fun K hK => ?_)
              go_simp
              refine hK _ _ ?_
              clear hK K
              go_wp2_with fail
              go_meet
              exact ⟨_, _, _, _, rfl, rfl, HLAI.out⟩
            exact AllReadyH.nil
          exact AllReadyH.nil
        exact AllReadyH.nil
      refine AllReadyH.cons (i := 4) (rs := []) rfl (fun K hK => ?_) ?_
      · go_simp
        have HBg := Hid.mk' (HBg.out.add2 28)
        refine hK.out _ _ HBg.out.ck (fun hHeld => ?_)
        clear hK K
        generalize wm75.alloc (.cells #[.slice none 0 0] 28) = wm92 at HBg hHeld ⊢
        (try simp only [Act.put, List.getElem_toArray, List.getElem_cons_succ, List.getElem_cons_zero, List.setIfInBounds_toArray, List.set_cons_succ, List.set_cons_zero])
        refine wpAnyH_ready (rs := [1, 3]) (by kernel_rfl) (by simp) ?_
        refine AllReadyH.cons (i := 1) (rs := [3]) rfl (fun K hK => ?_) ?_
        · refine tstep_room _ rfl _ _ _ rfl 35 i0 _ Tryd.underlying28 HINF.out.1 HINF.out.2.1 HINF.out.2.2.1 c rfl rfl (by rw [HINF.out.2.2.2]; omega) (by unfold maxLen; omega) ?_
          intro wm93 hown hgrow
          have HBg := Hid.mk' (HBg.out.add0 hown hgrow)
          refine hK.out _ _ HBg.out.ck (fun hHeld => ?_)
          clear hK K hown hgrow
          simp only [Act.put, List.getElem_toArray, List.getElem_cons_succ, List.getElem_cons_zero, List.setIfInBounds_toArray, List.set_cons_succ, List.set_cons_zero]
          refine wpAnyH_ready (rs := [3, 6]) (by kernel_rfl) (by simp) ?_
          refine AllReadyH.cons (i := 3) (rs := [6]) rfl (fun K hK => ?_) ?_
          · refine tstep_make _ rfl _ _ _ rfl 3 i1 _ Tryd.underlying35 HINI.out.1 HINI.out.2.1 HINI.out.2.2.1 k1 rfl rfl (by rw [HINI.out.2.2.2]; omega) (by unfold maxLen; omega) ?_
            intro wm94 hown hgrow
            have HBg := Hid.mk' (HBg.out.add1 hown hgrow)
            refine hK.out _ _ HBg.out.ck (fun hHeld => ?_)
            clear hK K hown hgrow
            simp only [Act.put, List.getElem_toArray, List.getElem_cons_succ, List.getElem_cons_zero, List.setIfInBounds_toArray, List.set_cons_succ, List.set_cons_zero]
            refine wpAnyH_ready (rs := [6]) (by kernel_rfl) (by simp) ?_
            refine AllReadyH.cons (i := 6) (rs := []) rfl (fun K hK => ?_) ?_
            · have bb := (HBg.out.b2 _ rfl)
              have e0 := bb.row 0 (by decide)
              have f0 := bb.fz 0 (by decide)
              have HBg := Hid.mk' (HBg.out.store rfl HKB.out (.slice (some ⟨wm92.heap.size, 0, none⟩) 0 c))
              go_simp
              refine hK.out _ _ HBg.out.ck (fun hHeld => ?_)
              clear hK K bb e0 f0
              generalize wm94.setCell ⟨wm75.heap.size, 0, none⟩ (.slice (some ⟨wm92.heap.size, 0, none⟩) 0 c) = wm95 at HBg hHeld ⊢
              (try simp only [Act.put, List.getElem_toArray, List.getElem_cons_succ, List.getElem_cons_zero, List.setIfInBounds_toArray, List.set_cons_succ, List.set_cons_zero])
              have bb := (HBg.out.b3 _ rfl)
              have e0 := bb.row 0 (by decide)
              have f0 := bb.fz 0 (by decide)
              have HLAI := Hid.mk' (HBg.out.lai rfl rfl rfl rfl HKB.out)
              clear bb
              refine wpAnyH_done (by kernel_rfl) ?_ _
              refine ahead_last rfl (fun K hK => ?_)
              go_simp
              refine hK _ _ ?_
              clear hK K
              go_wp2_with fail
              go_meet
              exact ⟨_, _, _, _, rfl, rfl, HLAI.out⟩
            exact AllReadyH.nil
          refine AllReadyH.cons (i := 6) (rs := []) rfl (fun K hK => ?_) ?_
          · have bb := (HBg.out.b2 _ rfl)
            have e0 := bb.row 0 (by decide)
            have f0 := bb.fz 0 (by decide)
            have HBg := Hid.mk' (HBg.out.store rfl HKB.out (.slice (some ⟨wm92.heap.size, 0, none⟩) 0 c))
            go_simp
            refine hK.out _ _ HBg.out.ck (fun hHeld => ?_)
            clear hK K bb e0 f0
            generalize wm93.setCell ⟨wm75.heap.size, 0, none⟩ (.slice (some ⟨wm92.heap.size, 0, none⟩) 0 c) = wm96 at HBg hHeld ⊢
            (try simp only [Act.put, List.getElem_toArray, List.getElem_cons_succ, List.getElem_cons_zero, List.setIfInBounds_toArray, List.set_cons_succ, List.set_cons_zero])
            refine wpAnyH_ready (rs := [3]) (by kernel_rfl) (by simp) ?_
            refine AllReadyH.cons (i := 3) (rs := []) rfl (fun K hK => ?_) ?_
            · refine tstep_make _ rfl _ _ _ rfl 3 i1 _ Tryd.underlying35 HINI.out.1 HINI.out.2.1 HINI.out.2.2.1 k1 rfl rfl (by rw [HINI.out.2.2.2]; omega) (by unfold maxLen; omega) ?_
              intro wm97 hown hgrow
              have HBg := Hid.mk' (HBg.out.add1 hown hgrow)
              refine hK.out _ _ HBg.out.ck (fun hHeld => ?_)
              clear hK K hown hgrow
              simp only [Act.put, List.getElem_toArray, List.getElem_cons_succ, List.getElem_cons_zero, List.setIfInBounds_toArray, List.set_cons_succ, List.set_cons_zero]
              have bb := (HBg.out.b3 _ rfl)
              have e0 := bb.row 0 (by decide)
              have f0 := bb.fz 0 (by decide)
              have HLAI := Hid.mk' (HBg.out.lai rfl rfl rfl rfl HKB.out)
              clear bb
              refine wpAnyH_done (by kernel_rfl) ?_ _
              refine ahead_last rfl (fun K hK => ?_)
              go_simp
              refine hK _ _ ?_
              clear hK K
              go_wp2_with fail
              go_meet
              exact ⟨_, _, _, _, rfl, rfl, HLAI.out⟩
            exact AllReadyH.nil
          exact AllReadyH.nil
        refine AllReadyH.cons (i := 3) (rs := []) rfl (fun K hK => ?_) ?_
        · refine tstep_make _ rfl _ _ _ rfl 3 i1 _ Tryd.underlying35 HINI.out.1 HINI.out.2.1 HINI.out.2.2.1 k1 rfl rfl (by rw [HINI.out.2.2.2]; omega) (by unfold maxLen; omega) ?_
          intro wm98 hown hgrow
          have HBg := Hid.mk' (HBg.out.add1 hown hgrow)
          refine hK.out _ _ HBg.out.ck (fun hHeld => ?_)
          clear hK K hown hgrow
          simp only [Act.put, List.getElem_toArray, List.getElem_cons_succ, List.getElem_cons_zero, List.setIfInBounds_toArray, List.set_cons_succ, List.set_cons_zero]
          refine wpAnyH_ready (rs := [1]) (by kernel_rfl) (by simp) ?_
          refine AllReadyH.cons (i := 1) (rs := []) rfl (fun K hK => ?_) ?_
          · refine tstep_room _ rfl _ _ _ rfl 35 i0 _ Tryd.underlying28 HINF.out.1 HINF.out.2.1 HINF.out.2.2.1 c rfl rfl (by rw [HINF.out.2.2.2]; omega) (by unfold maxLen; omega) ?_
            intro wm99 hown hgrow
            have HBg := Hid.mk' (HBg.out.add0 hown hgrow)
            refine hK.out _ _ HBg.out.ck (fun hHeld => ?_)
            clear hK K hown hgrow
            simp only [Act.put, List.getElem_toArray, List.getElem_cons_succ, List.getElem_cons_zero, List.setIfInBounds_toArray, List.set_cons_succ, List.set_cons_zero]
            refine wpAnyH_ready (rs := [6]) (by kernel_rfl) (by simp) ?_
            refine AllReadyH.cons (i := 6) (rs := []) rfl (fun K hK => ?_) ?_
            · have bb := (HBg.out.b2 _ rfl)
              have e0 := bb.row 0 (by decide)
              have f0 := bb.fz 0 (by decide)
              have HBg := Hid.mk' (HBg.out.store rfl HKB.out (.slice (some ⟨wm98.heap.size, 0, none⟩) 0 c))
              go_simp
              refine hK.out _ _ HBg.out.ck (fun hHeld => ?_)
              clear hK K bb e0 f0
              generalize wm99.setCell ⟨wm75.heap.size, 0, none⟩ (.slice (some ⟨wm98.heap.size, 0, none⟩) 0 c) = wm100 at HBg hHeld ⊢
              (try simp only [Act.put, List.getElem_toArray, List.getElem_cons_succ, List.getElem_cons_zero, List.setIfInBounds_toArray, List.set_cons_succ, List.set_cons_zero])
              have bb := (HBg.out.b3 _ rfl)
              have e0 := bb.row 0 (by decide)
              have f0 := bb.fz 0 (by decide)
              have HLAI := Hid.mk' (HBg.out.lai rfl rfl rfl rfl HKB.out)
              clear bb
              refine wpAnyH_done (by kernel_rfl) ?_ _
              refine ahead_last rfl (fun K hK => ?_)
              go_simp
              refine hK _ _ ?_
              clear hK K
              go_wp2_with fail
              go_meet
              exact ⟨_, _, _, _, rfl, rfl, HLAI.out⟩
            exact AllReadyH.nil
          exact AllReadyH.nil
        exact AllReadyH.nil
      exact AllReadyH.nil
    exact AllReadyH.nil
  case rest =>
    obtain ⟨go, gt, bo, bt, rfl, rfl, HLAI⟩ := hcut
    clear ck0
    have HFIL := Hid.mk' (fun t => HLAI.out.fil HB0.out HKB.out (Nat.le_refl _) t)
    have HZ0 : Hid (w.heap.size ≤ wc.heap.size + 1) := Nat.le_succ_of_le (Nat.le_trans HB0.out.size HLAI.out.below.size)
    clear HLAI
    go_wp2_with fail
    refine (fill_any k 0 n w _ (wc.heap.size + 1) w.heap.size wc.heap.size bt bo gt k1 _ _ [] [] (by have := HK1.out; omega) (HFIL.out _) (by omega) hn (by have := HCN.out; simp only [List.length_nil]; omega) HZ0.out).mono ?_
    rintro e w5 ⟨rfl, ts5, ov5, vs5, h5, -⟩
    have HF5 := Hid.mk' h5
    have c5 := h5.co
    obtain ⟨a5, q5, hov⟩ := h5.own.form
    subst hov
    clear h5 HFIL
    go_wp2_with fail
    go_ret2
    refine ⟨_, rfl, ?_, HF5.out.below⟩
    have e6 := HF5.out.own.lol
    have e7 : ([] : List (List Int)) ++ (typT k n).map (fun r => rowL (fun _ => 0) 0 ++ r) = typT k n := by simp [rowL]
    rw [e7] at e6
    exact e6
end Go.Proofs.YteicjedmingplaaDoor
