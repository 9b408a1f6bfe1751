/- Valid networks: (walks.Net).areTwo, walks.joined, walks.Valid, walks.pairError. -/
import Derived.Test.YtlnhpkmcinohdaaDoorWlSh
namespace Go.Proofs.YtlnhpkmcinohdaaDoor
open Go.RowKit

/-- Two vertices, unlike? -/
def twoB (N a b : Int) : Bool := decide (0 ≤ a) && (decide (a < N) && (decide (0 ≤ b) && (decide (b < N) && !(a == b))))
theorem twoB_parts {N a b : Int} (h : twoB N a b = true) : 0 ≤ a ∧ a < N ∧ 0 ≤ b ∧ b < N ∧ a ≠ b := by
  simp [twoB] at h
  exact ⟨h.1, h.2.1, h.2.2.1, h.2.2.2.1, h.2.2.2.2⟩
set_option maxRecDepth 100000 in
theorem areTwo_any (N a b : Int) (ad : Option Addr) (n cap : Nat) (w : World) :
    Calls Tryd.prog 22 #[.agg #[.int .i64 N, .slice ad n cap], .int .i64 a, .int .i64 b] w fun e w' => e = .returned (.bool (twoB N a b)) ∧ Below w.heap.size w w' := by
  have HB : Hid (∀ x, Below w.heap.size w (w.alloc x)) := fun x => (Below.refl _ _).alloc (Nat.le_refl _) _
  by_cases h1 : 0 ≤ a
  · have h1d : decide (0 ≤ a) = true := decide_eq_true h1
    by_cases h2 : a < N
    · have h2d : decide (a < N) = true := decide_eq_true h2
      by_cases h3 : 0 ≤ b
      · have h3d : decide (0 ≤ b) = true := decide_eq_true h3
        by_cases h4 : b < N
        · have h4d : decide (b < N) = true := decide_eq_true h4
          by_cases h5 : a = b
          · have h5d : (a != b) = false := by simpa using h5
            have HR : Hid (twoB N a b = false) := by show _ = _; simp [twoB, h5]
            clear h5
            go_enter Tryd.func22, Tryd.ntmps22
            go_wp2_with fail
            go_ret
            exact ⟨by rw [HR.out]; rfl, HB.out _⟩
          · have h5d : (a != b) = true := by simpa using h5
            have HR : Hid (twoB N a b = true) := by show _ = _; simp [twoB, h1d, h2d, h3d, h4d, h5]
            clear h5
            go_enter Tryd.func22, Tryd.ntmps22
            go_wp2_with fail
            go_ret
            exact ⟨by rw [HR.out]; rfl, HB.out _⟩
        · have h4d : decide (b < N) = false := decide_eq_false h4
          have HR : Hid (twoB N a b = false) := by show _ = _; simp [twoB, h4d]
          go_enter Tryd.func22, Tryd.ntmps22
          go_wp2_with fail
          go_ret
          exact ⟨by rw [HR.out]; rfl, HB.out _⟩
      · have h3d : decide (0 ≤ b) = false := decide_eq_false h3
        have HR : Hid (twoB N a b = false) := by show _ = _; simp [twoB, h3d]
        go_enter Tryd.func22, Tryd.ntmps22
        go_wp2_with fail
        go_ret
        exact ⟨by rw [HR.out]; rfl, HB.out _⟩
    · have h2d : decide (a < N) = false := decide_eq_false h2
      have HR : Hid (twoB N a b = false) := by show _ = _; simp [twoB, h2d]
      go_enter Tryd.func22, Tryd.ntmps22
      go_wp2_with fail
      go_ret
      exact ⟨by rw [HR.out]; rfl, HB.out _⟩
  · have h1d : decide (0 ≤ a) = false := decide_eq_false h1
    have HR : Hid (twoB N a b = false) := by show _ = _; simp [twoB, h1d]
    go_enter Tryd.func22, Tryd.ntmps22
    go_wp2_with fail
    go_ret
    exact ⟨by rw [HR.out]; rfl, HB.out _⟩

/-- A wire's ends become one: it goes, and one vertex more. -/
def stepL : List Wr → List Wr
  | [] => []
  | x :: l => shortL (min x.a x.b) (max x.a x.b) (x :: l)
/-- Is one vertex left? -/
def joinV : Nat → Int → List Wr → Bool
  | 0, N, _ => N == 1
  | _ + 1, N, [] => N == 1
  | f + 1, N, x :: l => joinV f (N - 1) (stepL (x :: l))
def DisE (l : List Wr) : Prop := ∀ x, x ∈ l → x.a ≠ x.b
theorem stepL_lt {x : Wr} {l : List Wr} (h : x.a ≠ x.b) : (stepL (x :: l)).length ≤ l.length := by
  show (shortL _ _ (x :: l)).length ≤ _
  unfold shortL
  rw [if_pos (min_max_num h)]
  exact shortL_le _ _ l
theorem numV_range {lo hi v : Int} (hv : 0 ≤ v ∧ v < 1000) (hl : 0 ≤ lo ∧ lo < 1000) (hh : 0 ≤ hi) : 0 ≤ numV lo hi v ∧ numV lo hi v < 1000 := by
  unfold numV
  split
  · exact hl
  · split <;> omega
theorem stepL_sm {l : List Wr} (h : SmE l) : SmE (stepL l) := by
  cases l with
  | nil => exact h
  | cons x l =>
    intro y hy
    obtain ⟨z, hz, e1, e2, e3, _⟩ := shortL_mem _ _ _ y hy
    have hx := h x (by simp)
    have hz2 := h z hz
    have k1 := numV_range (lo := min x.a x.b) (hi := max x.a x.b) (v := z.a) ⟨hz2.1, hz2.2.1⟩ (by omega) (by omega)
    have k2 := numV_range (lo := min x.a x.b) (hi := max x.a x.b) (v := z.b) ⟨hz2.2.2.1, hz2.2.2.2.1⟩ (by omega) (by omega)
    rw [e1, e2, e3]
    exact ⟨k1.1, k1.2, k2.1, k2.2, hz2.2.2.2.2⟩
theorem stepL_dis {l : List Wr} : DisE (stepL l) := by
  cases l with
  | nil => exact fun x hx => by cases hx
  | cons x l =>
    intro y hy
    obtain ⟨_, _, _, _, _, h⟩ := shortL_mem _ _ _ y hy
    exact h
/-- More rounds than wires change nothing. -/
theorem joinV_more : ∀ (f g : Nat) (N : Int) (l : List Wr), DisE l → l.length ≤ f → l.length ≤ g → joinV f N l = joinV g N l
  | 0, 0, _, _, _, _, _ => rfl
  | 0, g + 1, N, l, _, h, _ => by
    obtain rfl : l = [] := List.eq_nil_of_length_eq_zero (by omega)
    rfl
  | f + 1, 0, N, l, _, _, h => by
    obtain rfl : l = [] := List.eq_nil_of_length_eq_zero (by omega)
    rfl
  | f + 1, g + 1, N, [], _, _, _ => rfl
  | f + 1, g + 1, N, x :: l, hd, h1, h2 => by
    have h3 := stepL_lt (x := x) (l := l) (hd x (by simp))
    simp only [List.length_cons] at h1 h2
    exact joinV_more f g (N - 1) (stepL (x :: l)) stepL_dis (by omega) (by omega)
theorem joinV_cons {N : Int} {x : Wr} {l : List Wr} (hd : DisE (x :: l)) : joinV (x :: l).length N (x :: l) = joinV (stepL (x :: l)).length (N - 1) (stepL (x :: l)) := by
  have h3 := stepL_lt (x := x) (l := l) (hd x (by simp))
  exact joinV_more l.length _ (N - 1) (stepL (x :: l)) stepL_dis h3 (Nat.le_refl _)
theorem joinV_nil (f : Nat) (N : Int) : joinV f N [] = (N == 1) := by cases f <;> rfl

set_option maxRecDepth 100000 in
set_option maxHeartbeats 4000000 in
theorem joined_any (N : Int) (v : Value) (L : List Wr) (w : World) (h : WrAt w v L) (hl : L.length ≤ 1000) (hs : SmE L) (hd : DisE L) (hN : -1000 ≤ N ∧ N ≤ 1000) :
    Calls Tryd.prog 23 #[.agg #[.int .i64 N, v]] w fun e w' => e = .returned (.bool (joinV L.length N L)) ∧ Below w.heap.size w w' := by
  obtain ⟨ad, cap, rfl⟩ := h.form
  obtain ⟨W1, hW1⟩ : ∃ W1, W1 = w.alloc (.cells #[.int .i64 N, .slice ad L.length cap] 34) := ⟨_, rfl⟩
  obtain ⟨bx, hbx⟩ : ∃ bx, bx = w.heap.size := ⟨_, rfl⟩
  have hb1 : Below w.heap.size w W1 := by rw [hW1]; exact (Below.refl _ _).alloc (Nat.le_refl _) _
  have HI : Hid (WrAt W1 (.slice ad L.length cap) L ∧ FarW (.slice ad L.length cap) L bx ∧ W1.cell? ⟨bx, 0, none⟩ = some (.int .i64 N) ∧ W1.cell? ⟨bx, 1, none⟩ = some (.slice ad L.length cap) ∧ W1.frozen? ⟨bx, 0, none⟩ = false ∧ W1.frozen? ⟨bx, 1, none⟩ = false ∧ Below w.heap.size w W1) := by
    refine ⟨h.later hb1, h.far (by omega), ?_, ?_, ?_, ?_, hb1⟩
    all_goals (rw [hW1, hbx]; go_simp)
  have HS := Hid.mk' (And.intro hs hd)
  clear h hs hd hb1
  go_enter Tryd.func23, Tryd.ntmps23
  go_upto_region 1 with fail
  rw [← hW1, ← hbx]
  have HBX : Hid (w.heap.size ≤ bx) := by show _ ≤ _; omega
  clear hW1 hbx
  go_loopg [6] L.length (fun gk t wr => ∃ (M : Int) (v : Value) (l : List Wr), l.length ≤ gk ∧ gk ≤ 1000 ∧ N - 1000 ≤ M - gk ∧ M ≤ N ∧ Hid (joinV l.length M l = joinV L.length N L) ∧ Hid (SmE l ∧ DisE l) ∧ Hid (WrAt wr v l ∧ FarW v l bx ∧ wr.cell? ⟨bx, 0, none⟩ = some (.int .i64 M) ∧ wr.cell? ⟨bx, 1, none⟩ = some v ∧ wr.frozen? ⟨bx, 0, none⟩ = false ∧ wr.frozen? ⟨bx, 1, none⟩ = false ∧ Below w.heap.size w wr))
  case atStart => exact ⟨N, _, L, Nat.le_refl _, hl, by omega, Int.le_refl _, rfl, HS.out, HI.out⟩
  case round =>
    clear HI HS
    obtain ⟨M, v, l, hlk, hk, hM1, hM2, HJ, HS, HI⟩ := hrel
    obtain ⟨lad, lcap, rfl⟩ := HI.out.1.form
    have q0 := HI.out.2.2.1
    have q1 := HI.out.2.2.2.1
    cases l with
    | nil =>
      have HR := Hid.mk' HJ.out
      rw [joinV_nil] at HR
      simp only [List.length_nil] at q1
      go_wp2_with fail
      go_ret
      exact ⟨by rw [← HR.out]; rfl, HI.out.2.2.2.2.2.2⟩
    | cons x l =>
      have HX := Hid.mk' (HS.out.2 x (by simp))
      have HJ2 := Hid.mk' HJ.out
      rw [joinV_cons HS.out.2] at HJ2
      have HLT := Hid.mk' (stepL_lt (l := l) HX.out)
      have HS2 : Hid (SmE (stepL (x :: l)) ∧ DisE (stepL (x :: l))) := ⟨stepL_sm HS.out.1, stepL_dis⟩
      have hlen : (x :: l).length ≤ 1000 := by omega
      simp only [List.length_cons] at hlk
      obtain ⟨n, hn⟩ : ∃ n, n = (x :: l).length := ⟨_, rfl⟩
      have hnI : (0 : Int) < (n : Int) := by simp only [List.length_cons] at hn; omega
      have hshort := fun W (hb : Below wr.heap.size wr W) => wshort_any M x.a x.b (.slice lad (x :: l).length lcap) (x :: l) W (HI.out.1.later hb) hlen HS.out.1 (by omega)
      obtain ⟨b, o, hbo, x0, x1, x2⟩ := HI.out.1.at (i := 0) (m := x) rfl
      subst hbo
      simp only [Nat.zero_mul, Nat.add_zero] at x0 x1
      rw [← hn] at q1 hshort
      have HSH := Hid.mk' hshort
      have HKS : Hid (∀ W, Below wr.heap.size wr W → W.cell? ⟨bx, 0, none⟩ = some (.int .i64 M) ∧ W.cell? ⟨bx, 1, none⟩ = some (.slice (some ⟨b, o, none⟩) n lcap) ∧ W.cell? ⟨b, o, none⟩ = some (.int .i64 x.a) ∧ W.cell? ⟨b, o + 1, none⟩ = some (.int .i64 x.b)) := fun W hb => ⟨by rw [hb.cell (cell_lt q0)]; exact q0, by rw [hb.cell (cell_lt q1)]; exact q1, by rw [hb.cell (cell_lt x0)]; exact x0, by rw [hb.cell (cell_lt x1)]; exact x1⟩
      have HQ := Hid.mk' (And.intro q0 (And.intro q1 (And.intro HI.out.2.2.2.2.1 HI.out.2.2.2.2.2.1)))
      have HBW := Hid.mk' HI.out.2.2.2.2.2.2
      have hcur : Below wr.heap.size wr wr.drew := (Below.refl _ _).drew
      clear hshort HI HJ HS x0 x1 x2 hn hlen
      go_wp2_with fail
      clear q0 q1
      refine region_but_last (n := 12) (S := fun W => W.cell? ⟨bx, 0, none⟩ = some (.int .i64 M) ∧ W.cell? ⟨bx, 1, none⟩ = some (.slice (some ⟨b, o, none⟩) n lcap) ∧ W.cell? ⟨b, o, none⟩ = some (.int .i64 x.a) ∧ W.cell? ⟨b, o + 1, none⟩ = some (.int .i64 x.b)) (by kernel_rfl) (by kernel_rfl) (by kernel_rfl) (HKS.out _ hcur) (fun hHeld => ?_)
      refine wpAnyH_take (i := 0) (v := ?v0) rfl (by kernel_rfl) (by kernel_rfl) (by kernel_rfl) (fun _ _ _ h => h) (Or.inl ⟨by rfl, ?hy0⟩) (by assumption) ?rest0
      case hy0 => (intro w hSw; (try dsimp only at hSw); go_simp <;> (try with_reducible rfl))
      simp only [Act.put]
      refine wpAnyH_take (i := 1) (v := ?v1) rfl (by kernel_rfl) (by kernel_rfl) (by kernel_rfl) (fun _ _ _ h => h) (Or.inl ⟨by rfl, ?hy1⟩) (by assumption) ?rest1
      case hy1 => (intro w hSw; (try dsimp only at hSw); go_simp <;> (try with_reducible rfl))
      simp only [Act.put]
      refine wpAnyH_take (i := 2) (v := ?v2) rfl (by kernel_rfl) (by kernel_rfl) (by kernel_rfl) (fun _ _ _ h => h) (Or.inl ⟨by rfl, ?hy2⟩) (by assumption) ?rest2
      case hy2 => (intro w hSw; (try dsimp only at hSw); go_simp <;> (try with_reducible rfl))
      simp only [Act.put]
      refine wpAnyH_take (i := 3) (v := ?v3) rfl (by kernel_rfl) (by kernel_rfl) (by kernel_rfl) (fun _ _ _ h => h) (Or.inl ⟨by rfl, ?hy3⟩) (by assumption) ?rest3
      case hy3 => (intro w hSw; (try dsimp only at hSw); go_simp <;> (try with_reducible rfl))
      simp only [Act.put]
      refine wpAnyH_take (i := 4) (v := ?v4) rfl (by kernel_rfl) (by kernel_rfl) (by kernel_rfl) (fun _ _ _ h => h) (Or.inl ⟨by rfl, ?hy4⟩) (by assumption) ?rest4
      case hy4 => (intro w hSw; (try dsimp only at hSw); go_simp <;> (try with_reducible rfl))
      simp only [Act.put]
      refine wpAnyH_take (i := 5) (v := ?v5) rfl (by kernel_rfl) (by kernel_rfl) (by kernel_rfl) (fun _ _ _ h => h) (Or.inl ⟨by rfl, ?hy5⟩) (by assumption) ?rest5
      case hy5 => (intro w hSw; (try dsimp only at hSw); go_simp <;> (try with_reducible rfl))
      simp only [Act.put]
      refine wpAnyH_take (i := 6) (v := ?v6) rfl (by kernel_rfl) (by kernel_rfl) (by kernel_rfl) (fun _ _ _ h => h) (Or.inl ⟨by rfl, ?hy6⟩) (by assumption) ?rest6
      case hy6 => (intro w hSw; (try dsimp only at hSw); go_simp <;> (try with_reducible rfl))
      simp only [Act.put]
      refine wpAnyH_take (i := 7) (v := ?v7) rfl (by kernel_rfl) (by kernel_rfl) (by kernel_rfl) (fun _ _ _ h => h) (Or.inl ⟨by rfl, ?hy7⟩) (by assumption) ?rest7
      case hy7 => (intro w hSw; (try dsimp only at hSw); go_simp <;> (try with_reducible rfl))
      simp only [Act.put]
      refine wpAnyH_take (i := 8) (v := ?v8) rfl (by kernel_rfl) (by kernel_rfl) (by kernel_rfl) (fun _ _ _ h => h) (Or.inl ⟨by rfl, ?hy8⟩) (by assumption) ?rest8
      case hy8 => (intro w hSw; (try dsimp only at hSw); go_simp <;> (try with_reducible rfl))
      simp only [Act.put]
      refine wpAnyH_take (i := 9) (v := ?v9) rfl (by kernel_rfl) (by kernel_rfl) (by kernel_rfl) (fun _ _ _ h => h) (Or.inl ⟨by rfl, ?hy9⟩) (by assumption) ?rest9
      case hy9 => (intro w hSw; (try dsimp only at hSw); go_simp <;> (try with_reducible rfl))
      simp only [Act.put]
      refine wpAnyH_take (i := 10) (v := ?v10) rfl (by kernel_rfl) (by kernel_rfl) (by kernel_rfl) (fun _ _ _ h => h) (Or.inl ⟨by rfl, ?hy10⟩) (by assumption) ?rest10
      case hy10 => (intro w hSw; (try dsimp only at hSw); go_simp <;> (try with_reducible rfl))
      simp only [Act.put]
      refine wpAnyH_ready (rs := [11]) (by kernel_rfl) (by simp) ?_
      refine AllReadyH.cons rfl (fun K hK => ?_) AllReadyH.nil
      go_simp
      refine (HSH.out _ hcur).mono ?_
      rintro e w7 ⟨v', rfl, hv', hb7, hge⟩
      have hb8 := below_chain hcur hb7
      have r0 : w7.cell? ⟨bx, 0, none⟩ = some (.int .i64 M) := by rw [hb8.cell (cell_lt HQ.out.1)]; exact HQ.out.1
      have r1 : w7.cell? ⟨bx, 1, none⟩ = some (.slice (some ⟨b, o, none⟩) n lcap) := by rw [hb8.cell (cell_lt HQ.out.2.1)]; exact HQ.out.2.1
      have z0 : w7.frozen? ⟨bx, 0, none⟩ = false := by rw [hb8.frozen (cell_lt HQ.out.1)]; exact HQ.out.2.2.1
      have z1 : w7.frozen? ⟨bx, 1, none⟩ = false := by rw [hb8.frozen (cell_lt HQ.out.2.1)]; exact HQ.out.2.2.2
      have r1' : (w7.setCell ⟨bx, 0, none⟩ (.int .i64 (M - 1))).cell? ⟨bx, 1, none⟩ = some (.slice (some ⟨b, o, none⟩) n lcap) := by rw [World.cell?_setCell_other _ _ _ _ (by simp)]; exact r1
      obtain ⟨va, vc, rfl⟩ := hv'.form
      have hbl : bx < wr.heap.size := cell_lt HQ.out.1
      have hsd := hcur.size
      have HF : Hid (FarW (.slice va (stepL (x :: l)).length vc) (stepL (x :: l)) bx) := Or.inr fun b o k c e => by have := hge b o k c e; omega
      have HV : Hid (WrAt w7 (.slice va (stepL (x :: l)).length vc) (stepL (x :: l))) := hv'
      have HB8 := Hid.mk' (below_chain HBW.out hb8)
      have HC : Hid (((w7.setCell ⟨bx, 0, none⟩ (.int .i64 (M - 1))).setCell ⟨bx, 1, none⟩ (.slice va (stepL (x :: l)).length vc)).cell? ⟨bx, 0, none⟩ = some (.int .i64 (M - 1)) ∧ ((w7.setCell ⟨bx, 0, none⟩ (.int .i64 (M - 1))).setCell ⟨bx, 1, none⟩ (.slice va (stepL (x :: l)).length vc)).cell? ⟨bx, 1, none⟩ = some (.slice va (stepL (x :: l)).length vc)) := ⟨by rw [World.cell?_setCell_other _ _ _ _ (by simp), World.cell?_setCell_same _ _ _ r0], by rw [World.cell?_setCell_same _ _ _ r1']⟩
      have HZ := Hid.mk' (And.intro z0 z1)
      go_wp2_with fail
      refine hK.out _ _ (HKS.out _ hb8) (fun hHeld => ?_)
      clear hK K
      refine wpAnyH_done (by kernel_rfl) ?_ _
      refine ahead_last rfl (fun K hK => ?_)
      go_simp
      refine hK _ _ ?_
      clear hK K
      go_wp2_with fail
      go_roundg (stepL (x :: l)).length
      case measure => have := HLT.out; omega
      case rel =>
        have := HLT.out
        exact ⟨M - 1, _, stepL (x :: l), Nat.le_refl _, by omega, by omega, by omega, HJ2.out, HS2.out, (HV.out.put HF.out _ _).put HF.out _ _, HF.out, HC.out.1, HC.out.2, by rw [World.frozen?_setCell, World.frozen?_setCell]; exact HZ.out.1, by rw [World.frozen?_setCell, World.frozen?_setCell]; exact HZ.out.2, (HB8.out.setCell HBX.out _).setCell HBX.out _⟩

/-- A right wire? -/
def wireB (N : Int) (x : Wr) : Bool := twoB N x.a x.b && (decide (1 ≤ x.c) && decide (x.c ≤ 1000))
def wiresB (N : Int) : List Wr → Bool
  | [] => true
  | x :: l => wireB N x && wiresB N l
/-- What Valid says. -/
def nwE (N : Int) (l : List Wr) : Nat := if N < 1 ∨ 8 < N ∨ 20 < l.length then 2 else if wiresB N l then (if joinV l.length N l then 0 else 6) else 3
theorem wiresB_snoc (N : Int) : ∀ (l : List Wr) (x : Wr), wiresB N (l ++ [x]) = (wiresB N l && wireB N x)
  | [], x => by simp [wiresB]
  | y :: l, x => by simp [wiresB, wiresB_snoc N l x, Bool.and_assoc]
theorem wiresB_mem {N : Int} : ∀ {l : List Wr}, wiresB N l = true → ∀ x, x ∈ l → wireB N x = true
  | y :: l, h, x, hx => by
    simp only [wiresB, Bool.and_eq_true] at h
    rcases List.mem_cons.1 hx with rfl | hx
    · exact h.1
    · exact wiresB_mem h.2 x hx
theorem wiresB_no {N : Int} : ∀ {l : List Wr} {x : Wr}, x ∈ l → wireB N x = false → wiresB N l = false
  | y :: l, x, hx, h => by
    rcases List.mem_cons.1 hx with rfl | hx
    · simp [wiresB, h]
    · simp [wiresB, wiresB_no hx h]
theorem wireB_parts {N : Int} {x : Wr} (h : wireB N x = true) : 0 ≤ x.a ∧ x.a < N ∧ 0 ≤ x.b ∧ x.b < N ∧ x.a ≠ x.b ∧ 1 ≤ x.c ∧ x.c ≤ 1000 := by
  unfold wireB at h
  simp only [Bool.and_eq_true, decide_eq_true_eq] at h
  obtain ⟨h1, h2, h3, h4, h5⟩ := twoB_parts h.1
  exact ⟨h1, h2, h3, h4, h5, h.2.1, h.2.2⟩
theorem wires_sm {N : Int} {l : List Wr} (hN : N ≤ 1000) (h : wiresB N l = true) : SmE l ∧ DisE l :=
  ⟨fun x hx => by have := wireB_parts (wiresB_mem h x hx); omega, fun x hx => (wireB_parts (wiresB_mem h x hx)).2.2.2.2.1⟩
theorem nwE_ok {N : Int} {l : List Wr} (h : nwE N l = 0) : 1 ≤ N ∧ N ≤ 8 ∧ l.length ≤ 20 ∧ wiresB N l = true ∧ joinV l.length N l = true := by
  unfold nwE at h
  split at h
  · cases h
  · split at h
    · split at h
      · rename_i h1 h2 h3
        exact ⟨by omega, by omega, by omega, h2, h3⟩
      · cases h
    · cases h
theorem nwE_le (N : Int) (l : List Wr) : nwE N l ≤ 8 := by
  unfold nwE
  split
  · decide
  · split
    · split <;> decide
    · decide

set_option maxRecDepth 100000 in
set_option maxHeartbeats 4000000 in
theorem NetValid_any (a : Nat → Addr) (N : Int) (v : Value) (L : List Wr) (w : World) (hE : Errs w a) (h : WrAt w v L) (hl : L.length ≤ 1000) :
    Calls Tryd.prog 9 #[.agg #[.int .i64 N, v]] w fun e w' => e = .returned (errV a (nwE N L)) ∧ Below w.heap.size w w' := by
  obtain ⟨ad, cap, rfl⟩ := h.form
  obtain ⟨W1, hW1⟩ : ∃ W1, W1 = w.alloc (.cells #[.int .i64 N, .slice ad L.length cap] 34) := ⟨_, rfl⟩
  obtain ⟨bx, hbx⟩ : ∃ bx, bx = w.heap.size := ⟨_, rfl⟩
  have hb1 : Below w.heap.size w W1 := by rw [hW1]; exact (Below.refl _ _).alloc (Nat.le_refl _) _
  have q0 : W1.cell? ⟨bx, 0, none⟩ = some (.int .i64 N) := by rw [hW1, hbx]; go_simp
  have q1 : W1.cell? ⟨bx, 1, none⟩ = some (.slice ad L.length cap) := by rw [hW1, hbx]; go_simp
  have HC : Hid (∀ W, Below W1.heap.size W1 W → W.cell? ⟨bx, 0, none⟩ = some (.int .i64 N) ∧ W.cell? ⟨bx, 1, none⟩ = some (.slice ad L.length cap)) := fun W hb => ⟨by rw [hb.cell (cell_lt q0)]; exact q0, by rw [hb.cell (cell_lt q1)]; exact q1⟩
  have HE : Hid (∀ W, Below W1.heap.size W1 W → W.cell? ⟨0, 0, none⟩ = some (.iface 143 (.pointer (some (a 1)))) ∧ W.cell? ⟨1, 0, none⟩ = some (.iface 143 (.pointer (some (a 2)))) ∧ W.cell? ⟨2, 0, none⟩ = some (.iface 143 (.pointer (some (a 5))))) := fun W hb => ⟨((hE.below hb1).below hb).c1, ((hE.below hb1).below hb).c2, ((hE.below hb1).below hb).c5⟩
  have HL := Hid.mk' (fun (W : World) (hb : Below W1.heap.size W1 W) => (h.later hb1).later hb)
  have HEND : Hid (∀ W, Below W1.heap.size W1 W → Below w.heap.size w W) := fun W hb => below_chain hb1 hb
  have HLN : Hid (L.length ≤ 1000) := hl
  have HTWO : Hid (∀ W (x y : Int), Calls Tryd.prog 22 #[.agg #[.int .i64 N, .slice ad L.length cap], .int .i64 x, .int .i64 y] W fun e w' => e = .returned (.bool (twoB N x y)) ∧ Below W.heap.size W w') := fun W x y => areTwo_any N x y ad L.length cap W
  obtain ⟨eB, eS, eN⟩ := HE.out _ (Below.refl _ _)
  clear hE h hb1
  by_cases hbad : N < 1 ∨ 8 < N ∨ 20 < L.length
  · have HR : Hid (errV a (nwE N L) = .iface 143 (.pointer (some (a 1)))) := by show _ = _; unfold nwE; rw [if_pos hbad]; rfl
    have hcase : (N < 1) ∨ (¬ N < 1 ∧ 8 < N) ∨ (¬ N < 1 ∧ ¬ 8 < N ∧ (20 : Int) < (L.length : Int)) := by omega
    clear hbad
    rcases hcase with h1 | ⟨h1, h2⟩ | ⟨h1, h2, h3⟩
    · have h1d : decide (N < 1) = true := decide_eq_true h1
      go_enter Tryd.func9, Tryd.ntmps9
      go_upto_region 1 with fail
      rw [← hW1, ← hbx]
      clear hW1 hbx
      go_wp2_with fail
      go_ret
      exact ⟨by rw [HR.out]; rfl, HEND.out _ (Below.refl _ _)⟩
    · have h1d : decide (N < 1) = false := decide_eq_false h1
      have h2d : decide (8 < N) = true := decide_eq_true h2
      go_enter Tryd.func9, Tryd.ntmps9
      go_upto_region 1 with fail
      rw [← hW1, ← hbx]
      clear hW1 hbx
      go_wp2_with fail
      go_ret
      exact ⟨by rw [HR.out]; rfl, HEND.out _ (Below.refl _ _)⟩
    · have h1d : decide (N < 1) = false := decide_eq_false h1
      have h2d : decide (8 < N) = false := decide_eq_false h2
      have h3d : decide ((20 : Int) < (L.length : Int)) = true := decide_eq_true h3
      go_enter Tryd.func9, Tryd.ntmps9
      go_upto_region 1 with fail
      rw [← hW1, ← hbx]
      clear hW1 hbx
      go_wp2_with fail
      go_ret
      exact ⟨by rw [HR.out]; rfl, HEND.out _ (Below.refl _ _)⟩
  · have h1d : decide (N < 1) = false := decide_eq_false (by omega)
    have h2d : decide (8 < N) = false := decide_eq_false (by omega)
    have h3I : ¬ (20 : Int) < (L.length : Int) := by omega
    have h3d : decide ((20 : Int) < (L.length : Int)) = false := decide_eq_false h3I
    have HR : Hid (nwE N L = if wiresB N L then (if joinV L.length N L then 0 else 6) else 3) := by show _ = _; unfold nwE; rw [if_neg hbad]
    have HNB : Hid (1 ≤ N ∧ N ≤ 8) := by show _ ∧ _; omega
    clear hbad
    go_enter Tryd.func9, Tryd.ntmps9
    go_upto_region 1 with fail
    rw [← hW1, ← hbx]
    clear hW1 hbx
    go_wp2_with fail
    clear eB eS eN q0 q1
    go_loopw [23] (fun t wr => ∃ k : Nat, k ≤ L.length ∧ t = .int .i64 k ∧ Hid (wiresB N (L.take k) = true) ∧ Hid (Below W1.heap.size W1 wr)) (fun t _ => L.length - (intOf t).toNat)
    case atStart => exact ⟨0, Nat.zero_le _, rfl, rfl, Below.refl _ _⟩
    case round =>
      obtain ⟨k, hk, rfl, HK, HB⟩ := hrel
      have hk0 : (0 : Int) ≤ (k : Int) := by omega
      rcases Nat.lt_or_ge k L.length with h5 | h5
      · obtain ⟨x, hx⟩ : ∃ x, L[k]? = some x := ⟨_, List.getElem?_eq_getElem h5⟩
        obtain ⟨b, o, hbo, x0, x1, x2⟩ := (HL.out wr HB.out).at hx
        subst hbo
        have HMEM := Hid.mk' (List.mem_of_getElem? hx)
        have HTK : Hid (wiresB N (L.take (k + 1)) = wireB N x) := by
          show _ = _
          obtain ⟨hi, rfl⟩ := List.getElem?_eq_some_iff.1 hx
          rw [List.take_succ_eq_append_getElem hi, wiresB_snoc, HK.out, Bool.true_and]
        have HSH : Hid (wireB N x = false → errV a (nwE N L) = .iface 143 (.pointer (some (a 2)))) := fun h => by rw [HR.out, wiresB_no HMEM.out h]; rfl
        have hkI : (k : Int) < (L.length : Int) := by omega
        obtain ⟨W4, hW4⟩ : ∃ W4, W4 = wr.alloc (.cells #[.int .i64 x.a, .int .i64 x.b, .int .i64 x.c] 47) := ⟨_, rfl⟩
        have hb4 : Below wr.heap.size wr W4 := by rw [hW4]; exact (Below.refl _ _).alloc (Nat.le_refl _) _
        have c0 : W4.cell? ⟨wr.heap.size, 0, none⟩ = some (.int .i64 x.a) := by rw [hW4]; go_simp
        have c1 : W4.cell? ⟨wr.heap.size, 1, none⟩ = some (.int .i64 x.b) := by rw [hW4]; go_simp
        have c2 : W4.cell? ⟨wr.heap.size, 2, none⟩ = some (.int .i64 x.c) := by rw [hW4]; go_simp
        have HB4 := Hid.mk' (below_chain HB.out hb4)
        have HC2 := Hid.mk' c2
        have HW4 := Hid.mk' hW4
        obtain ⟨q0, q1⟩ := HC.out W4 HB4.out
        clear hb4 hW4 hx c2
        go_upto_region 6 with fail
        rw [← HW4.out]
        clear x0 x1 x2
        have htwo := HTWO.out W4 x.a x.b
        have HWB : Hid (wireB N x = (twoB N x.a x.b && (decide (1 ≤ x.c) && decide (x.c ≤ 1000)))) := rfl
        generalize twoB N x.a x.b = T2 at *
        go_wp2_with fail
        refine htwo.mono ?_
        clear htwo c0 c1 q0 q1
        rintro e w6 ⟨rfl, hb6⟩
        have HB6 := Hid.mk' (below_chain HB4.out hb6)
        have c2 : w6.cell? ⟨wr.heap.size, 2, none⟩ = some (.int .i64 x.c) := by rw [hb6.cell (cell_lt HC2.out)]; exact HC2.out
        obtain ⟨eB, eS, eN⟩ := HE.out w6 HB6.out
        clear hb6
        cases T2 with
        | false =>
          have HF := Hid.mk' (HSH.out (by rw [HWB.out]; rfl))
          go_wp2_with fail
          go_ret
          exact ⟨by rw [HF.out]; rfl, HEND.out _ HB6.out⟩
        | true =>
          obtain ⟨xc, hxc⟩ : ∃ z, z = x.c := ⟨_, rfl⟩
          rw [← hxc] at c2 HWB
          clear hxc
          by_cases h6 : xc < 1
          · have h6d : decide (xc < 1) = true := decide_eq_true h6
            have HF := Hid.mk' (HSH.out (by rw [HWB.out, decide_eq_false (by omega)]; rfl))
            go_wp2_with fail
            go_ret
            exact ⟨by rw [HF.out]; rfl, HEND.out _ HB6.out⟩
          · have h6d : decide (xc < 1) = false := decide_eq_false h6
            by_cases h7 : 1000 < xc
            · have h7d : decide (1000 < xc) = true := decide_eq_true h7
              have HF := Hid.mk' (HSH.out (by rw [HWB.out, decide_eq_false (show ¬ xc ≤ 1000 by omega)]; simp))
              go_wp2_with fail
              go_ret
              exact ⟨by rw [HF.out]; rfl, HEND.out _ HB6.out⟩
            · have h7d : decide (1000 < xc) = false := decide_eq_false h7
              have HF : Hid (wiresB N (L.take (k + 1)) = true) := by show _ = _; rw [HTK.out, HWB.out, decide_eq_true (show 1 ≤ xc by omega), decide_eq_true (show xc ≤ 1000 by omega)]; rfl
              go_wp2_with fail
              exact ⟨⟨k + 1, h5, by go_num, HF, HB6⟩, by simp [intOf]; omega⟩
      · obtain rfl : k = L.length := by omega
        rw [List.take_length] at HK
        obtain ⟨hsm, hdis⟩ := wires_sm (by have := HNB.out; omega) HK.out
        have hj := joined_any N (.slice ad L.length cap) L wr (HL.out wr HB.out) HLN.out hsm hdis (by have := HNB.out; omega)
        have HR2 : Hid (nwE N L = if joinV L.length N L then 0 else 6) := by show _ = _; rw [HR.out, HK.out]; rfl
        obtain ⟨q0, q1⟩ := HC.out wr HB.out
        generalize joinV L.length N L = J at *
        clear hsm hdis
        go_wp2_with fail
        refine hj.mono ?_
        clear hj q0 q1
        rintro e w6 ⟨rfl, hb6⟩
        have HB6 := Hid.mk' (below_chain HB.out hb6)
        obtain ⟨eB, eS, eN⟩ := HE.out w6 HB6.out
        clear hb6
        cases J with
        | false =>
          have HF : Hid (errV a (nwE N L) = .iface 143 (.pointer (some (a 5)))) := by show _ = _; rw [HR2.out]; rfl
          go_wp2_with fail
          go_ret
          exact ⟨by rw [HF.out]; rfl, HEND.out _ HB6.out⟩
        | true =>
          have HF : Hid (errV a (nwE N L) = .nilIface) := by show _ = _; rw [HR2.out]; rfl
          go_wp2_with fail
          go_ret
          exact ⟨by rw [HF.out]; rfl, HEND.out _ HB6.out⟩
/-- What is wrong with two vertices. -/
def paE (N : Int) (L : List Wr) (x y : Int) : Nat := if nwE N L = 0 then (if twoB N x y then 0 else 3) else nwE N L
theorem paE_le (N : Int) (L : List Wr) (x y : Int) : paE N L x y ≤ 8 := by
  unfold paE
  split
  · split <;> decide
  · exact nwE_le N L
set_option maxRecDepth 100000 in
set_option maxHeartbeats 2000000 in
theorem npError_any (a : Nat → Addr) (N x y : Int) (v : Value) (L : List Wr) (w : World) (hE : Errs w a) (h : WrAt w v L) (hl : L.length ≤ 1000) :
    Calls Tryd.prog 28 #[.agg #[.int .i64 N, v], .int .i64 x, .int .i64 y] w fun e w' => e = .returned (errV a (paE N L x y)) ∧ Below w.heap.size w w' := by
  obtain ⟨ad, cap, rfl⟩ := h.form
  obtain ⟨W1, hW1⟩ : ∃ W1, W1 = w.alloc (.cells #[.int .i64 N, .slice ad L.length cap] 34) := ⟨_, rfl⟩
  obtain ⟨bx, hbx⟩ : ∃ bx, bx = w.heap.size := ⟨_, rfl⟩
  have hb1 : Below w.heap.size w W1 := by rw [hW1]; exact (Below.refl _ _).alloc (Nat.le_refl _) _
  have q0 : W1.cell? ⟨bx, 0, none⟩ = some (.int .i64 N) := by rw [hW1, hbx]; go_simp
  have q1 : W1.cell? ⟨bx, 1, none⟩ = some (.slice ad L.length cap) := by rw [hW1, hbx]; go_simp
  have hv := NetValid_any a N (.slice ad L.length cap) L W1 (hE.below hb1) (h.later hb1) hl
  have HEE := Hid.mk' (fun (W : World) (hb : Below w.heap.size w W) => (hE.below hb).c2)
  have HB1 := Hid.mk' hb1
  have HQ := Hid.mk' (And.intro q0 q1)
  have hle := nwE_le N L
  have HPE : Hid (paE N L x y = if nwE N L = 0 then (if twoB N x y then 0 else 3) else nwE N L) := rfl
  clear hE h hb1
  generalize nwE N L = E at *
  go_enter Tryd.func28, Tryd.ntmps28
  go_upto_region 1 with fail
  rw [← hW1, ← hbx]
  clear hW1 hbx
  go_wp2_with fail
  refine hv.mono ?_
  clear hv q0 q1
  rintro e w2 ⟨rfl, hb2⟩
  have HB2 := Hid.mk' (below_chain HB1.out hb2)
  rcases Nat.eq_zero_or_pos E with h0 | h0
  · subst h0
    have htwo := areTwo_any N x y ad L.length cap w2
    have q0 : w2.cell? ⟨bx, 0, none⟩ = some (.int .i64 N) := by rw [hb2.cell (cell_lt HQ.out.1)]; exact HQ.out.1
    have q1 : w2.cell? ⟨bx, 1, none⟩ = some (.slice ad L.length cap) := by rw [hb2.cell (cell_lt HQ.out.2)]; exact HQ.out.2
    have HV0 : Hid (errV a 0 = .nilIface) := rfl
    generalize twoB N x y = T2 at *
    rw [HV0.out]
    clear hb2
    go_wp2_with fail
    refine htwo.mono ?_
    clear htwo q0 q1
    rintro e w3 ⟨rfl, hb3⟩
    have HB3 := Hid.mk' (below_chain HB2.out hb3)
    have eS := HEE.out w3 HB3.out
    cases T2 with
    | false =>
      go_wp2_with fail
      go_ret
      exact ⟨by rw [HPE.out]; rfl, HB3.out⟩
    | true =>
      go_wp2_with fail
      go_ret
      exact ⟨by rw [HPE.out]; rfl, HB3.out⟩
  · have HV0 : Hid (errV a E = .iface 143 (.pointer (some (a (E - 1))))) := by show _ = _; unfold errV; rw [if_neg (by omega)]
    have HPE2 : Hid (errV a (paE N L x y) = .iface 143 (.pointer (some (a (E - 1))))) := by show _ = _; rw [HPE.out, if_neg (by omega), HV0.out]
    rw [HV0.out]
    clear hb2
    go_wp2_with fail
    go_ret
    exact ⟨by rw [HPE2.out]; rfl, HB2.out⟩
end Go.Proofs.YtlnhpkmcinohdaaDoor
