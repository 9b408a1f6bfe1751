/- zero.both: its boxes, in whatever order they are made. -/
import Derived.Test.YtojljmapdafmaaaDoorZeBoth
namespace Go.Proofs.YtojljmapdafmaaaDoor
open Go.RowKit

theorem more_belowZ {B : Nat} {a w : World} (h : Below B a w) (hB : B ≤ a.heap.size) (o : Obj) : Below B a (w.alloc o) := h.alloc (Nat.le_trans hB h.size) o

theorem setBZ {B b : Nat} {a w : World} (h : Below B a w) (hb : B ≤ b) (x : Value) : Below B a (w.setCell ⟨b, 0, none⟩ x) := h.setCell hb x
theorem undrew {X w' : World} (h : Below X.drew.heap.size X.drew w') : Below X.heap.size X w' := (Below.refl _ _).drew.trans h
theorem boxA {W w' : World} {x : Value} {t : TypeId} (hb : Below (W.alloc (.cells #[x] t)).heap.size (W.alloc (.cells #[x] t)) w') : w'.cell? ⟨W.heap.size, 0, none⟩ = some x ∧ w'.frozen? ⟨W.heap.size, 0, none⟩ = false := by
  refine ⟨?_, ?_⟩
  · rw [hb.cell (p := ⟨W.heap.size, 0, none⟩) (by simp)]; go_simp
  · rw [hb.frozen (p := ⟨W.heap.size, 0, none⟩) (by simp)]; go_simp
theorem boxB {W w' : World} {x : Value} {t : TypeId} {o : Obj} (hb : Below ((W.alloc (.cells #[x] t)).alloc o).heap.size ((W.alloc (.cells #[x] t)).alloc o) w') : w'.cell? ⟨W.heap.size, 0, none⟩ = some x ∧ w'.frozen? ⟨W.heap.size, 0, none⟩ = false := by
  have h1 : Below (W.alloc (.cells #[x] t)).heap.size (W.alloc (.cells #[x] t)) ((W.alloc (.cells #[x] t)).alloc o) := (Below.refl _ _).alloc (Nat.le_refl _) _
  exact boxA (h1.trans (hb.mono h1.size))
theorem boxK {W w' : World} {p : Addr} {x : Value} (h : W.cell? p = some x ∧ W.frozen? p = false) (hb : Below W.heap.size W w') : w'.cell? p = some x ∧ w'.frozen? p = false :=
  ⟨by rw [hb.cell (cell_lt h.1)]; exact h.1, by rw [hb.frozen (cell_lt h.1)]; exact h.2⟩
/-- The blocks between two numbers are as they were. -/
def KeepB (lo hi : Nat) (W W' : World) : Prop := ∀ b j, lo ≤ b → b < hi → W'.cell? ⟨b, j, none⟩ = W.cell? ⟨b, j, none⟩
theorem KeepB.refl (lo hi : Nat) (W : World) : KeepB lo hi W W := fun _ _ _ _ => rfl
theorem KeepB.alloc {lo hi : Nat} {W W' : World} (h : KeepB lo hi W W') (hh : hi ≤ W'.heap.size) (o : Obj) : KeepB lo hi W (W'.alloc o) := fun b j h1 h2 => by
  have hb : Below W'.heap.size W' (W'.alloc o) := (Below.refl _ _).alloc (Nat.le_refl _) _
  rw [hb.cell (p := ⟨b, j, none⟩) (Nat.lt_of_lt_of_le h2 hh)]
  exact h b j h1 h2
theorem KeepB.below {lo hi : Nat} {W W' W'' : World} (h : KeepB lo hi W W') (hh : hi ≤ W'.heap.size) (hb : Below W'.heap.size W' W'') : KeepB lo hi W W'' := fun b j h1 h2 => by
  rw [hb.cell (p := ⟨b, j, none⟩) (Nat.lt_of_lt_of_le h2 hh)]
  exact h b j h1 h2
theorem KeepB.set {lo hi : Nat} {W W' : World} (h : KeepB lo hi W W') {c : Nat} (hp : c < lo ∨ hi ≤ c) (x : Value) : KeepB lo hi W (W'.setCell ⟨c, 0, none⟩ x) := fun b j h1 h2 => by
  rw [World.cell?_setCell_other _ _ _ _ (fun e => by have := congrArg Addr.block e; simp at this; omega)]
  exact h b j h1 h2

theorem keepRow {W W' : World} {g j : Nat} {x : Option Value} (k : KeepB g (g + 1) W W') (h : W.cell? ⟨g, j, none⟩ = x) : W'.cell? ⟨g, j, none⟩ = x := by
  rw [k g j (Nat.le_refl _) (Nat.lt_succ_self _)]; exact h

set_option maxRecDepth 100000 in
set_option maxHeartbeats 8000000 in
theorem both_any (n1 n2 m1 m2 : Nat) (e1 e2 : Value) (p1 q1 p2 q2 : Nat → Nat) (w : World) (hE1 : EdAt w e1 m1 (fun i => (p1 i : Int)) (fun i => (q1 i : Int))) (hE2 : EdAt w e2 m2 (fun i => (p2 i : Int)) (fun i => (q2 i : Int))) (hn1 : n1 ≤ 16) (hn2 : n2 ≤ 16) (hn : n1 * n2 ≤ 16) (hm1 : m1 ≤ 1000) (hm2 : m2 ≤ 1000) (hp1 : ∀ k, k < m1 → p1 k < q1 k ∧ q1 k < n1) (hp2 : ∀ k, k < m2 → p2 k < q2 k ∧ q2 k < n2) :
    Calls Tryd.prog 36 #[.agg #[.int .i64 n1, e1], .agg #[.int .i64 n2, e2]] w fun e w' => ∃ v, e = .returned (.agg #[.int .i64 (n1 * n2 : Nat), v]) ∧ w'.ownsRow w.heap.size 51 2 v (edTo (bothJ (nrB p1 q1 m1) (nrB p2 q2 m2) n2) (n1 * n2) (n1 * n2)).length (pairCells (edTo (bothJ (nrB p1 q1 m1) (nrB p2 q2 m2) n2) (n1 * n2) (n1 * n2))) ∧ Below w.heap.size w w' := by
  obtain ⟨ad1, cap1, rfl, -⟩ := id hE1
  obtain ⟨ad2, cap2, rfl, -⟩ := id hE2
  obtain ⟨W0, hW0⟩ : ∃ W0, W0 = ((w.alloc (.cells #[.int .i64 n1, .slice ad1 m1 cap1] 33)).alloc (.cells #[.int .i64 n2, .slice ad2 m2 cap2] 33)).alloc (.cells #[.int .i64 0, .slice none 0 0] 33) := ⟨_, rfl⟩
  have hb0 : Below w.heap.size w W0 := by rw [hW0]; exact (((Below.refl _ _).alloc (Nat.le_refl _) _).alloc (by simp) _).alloc (by simp; omega) _
  have a0 : W0.cell? ⟨w.heap.size, 0, none⟩ = some (.int .i64 n1) := by rw [hW0]; go_simp
  have a1 : W0.cell? ⟨w.heap.size, 1, none⟩ = some (.slice ad1 m1 cap1) := by rw [hW0]; go_simp
  have b0 : W0.cell? ⟨w.heap.size + 1, 0, none⟩ = some (.int .i64 n2) := by rw [hW0]; go_simp
  have b1 : W0.cell? ⟨w.heap.size + 1, 1, none⟩ = some (.slice ad2 m2 cap2) := by rw [hW0]; go_simp
  have HS : Hid (∀ W, Below W0.heap.size W0 W → (W.cell? ⟨w.heap.size, 0, none⟩ = some (.int .i64 n1) ∧ W.cell? ⟨w.heap.size, 1, none⟩ = some (.slice ad1 m1 cap1)) ∧ (W.cell? ⟨w.heap.size + 1, 0, none⟩ = some (.int .i64 n2) ∧ W.cell? ⟨w.heap.size + 1, 1, none⟩ = some (.slice ad2 m2 cap2))) := fun W hb => ⟨⟨by rw [hb.cell (cell_lt a0)]; exact a0, by rw [hb.cell (cell_lt a1)]; exact a1⟩, ⟨by rw [hb.cell (cell_lt b0)]; exact b0, by rw [hb.cell (cell_lt b1)]; exact b1⟩⟩
  have HN1 : Hid (∀ W, Below W0.heap.size W0 W → Calls Tryd.prog 43 #[.agg #[.int .i64 n1, .slice ad1 m1 cap1]] W fun e w' => ∃ g, e = .returned (.slice (some ⟨g, 0, none⟩) n1 n1) ∧ FilU W w' g n1 (nrB p1 q1 m1)) := fun W hb => near_any n1 m1 _ p1 q1 W ((hE1.later hb0).later hb) hn1 hm1 hp1
  have HN2 : Hid (∀ W, Below W0.heap.size W0 W → Calls Tryd.prog 43 #[.agg #[.int .i64 n2, .slice ad2 m2 cap2]] W fun e w' => ∃ g, e = .returned (.slice (some ⟨g, 0, none⟩) n2 n2) ∧ FilU W w' g n2 (nrB p2 q2 m2)) := fun W hb => near_any n2 m2 _ p2 q2 W ((hE2.later hb0).later hb) hn2 hm2 hp2
  have r0 : W0.cell? ⟨w.heap.size + 1 + 1, 0, none⟩ = some (.int .i64 0) := by rw [hW0]; go_simp
  have r1 : W0.cell? ⟨w.heap.size + 1 + 1, 1, none⟩ = some (.slice none 0 0) := by rw [hW0]; go_simp
  have f0 : W0.frozen? ⟨w.heap.size + 1 + 1, 0, none⟩ = false := by rw [hW0]; go_simp
  have f1 : W0.frozen? ⟨w.heap.size + 1 + 1, 1, none⟩ = false := by rw [hW0]; go_simp
  have HR0 : Hid (∀ W, Below W0.heap.size W0 W → W.cell? ⟨w.heap.size + 1 + 1, 0, none⟩ = some (.int .i64 0) ∧ W.cell? ⟨w.heap.size + 1 + 1, 1, none⟩ = some (.slice none 0 0) ∧ W.frozen? ⟨w.heap.size + 1 + 1, 0, none⟩ = false ∧ W.frozen? ⟨w.heap.size + 1 + 1, 1, none⟩ = false) := fun W hb => ⟨by rw [hb.cell (cell_lt r0)]; exact r0, by rw [hb.cell (cell_lt r1)]; exact r1, by rw [hb.frozen (p := ⟨w.heap.size + 1 + 1, 0, none⟩) (cell_lt r0)]; exact f0, by rw [hb.frozen (p := ⟨w.heap.size + 1 + 1, 1, none⟩) (cell_lt r1)]; exact f1⟩
  have HB0 := Hid.mk' hb0
  have HSZ : Hid (W0.heap.size = w.heap.size + 1 + 1 + 1) := by show _ = _; rw [hW0]; simp
  have HW0 := Hid.mk' hW0
  clear hE1 hE2 hb0 hW0 a0 a1 b0 b1 r0 r1 f0 f1
  go_enter Tryd.func36, Tryd.ntmps36
  go_upto_region 1 with fail
  rw [← HW0.out]
  have hcur0 : Below W0.heap.size W0 W0 := Below.refl _ _
  have hcur : Below W0.heap.size W0 W0.drew := hcur0.drew
  go_cut [5, 6] from 7 to 10 (fun s5 s6 wx => ∃ (B5 B6 g1 g2 : Nat), s5 = .pointer (some ⟨B5, 0, none⟩) ∧ s6 = .pointer (some ⟨B6, 0, none⟩) ∧ Hid (Below W0.heap.size W0 wx) ∧ Hid (wx.cell? ⟨B5, 0, none⟩ = some (.slice (some ⟨g1, 0, none⟩) n1 n1)) ∧ Hid (wx.cell? ⟨B6, 0, none⟩ = some (.slice (some ⟨g2, 0, none⟩) n2 n2)) ∧ Hid (∀ v, v < n1 → wx.cell? ⟨g1, v, none⟩ = some (.int .u64 (nrB p1 q1 m1 v : Nat))) ∧ Hid (∀ v, v < n2 → wx.cell? ⟨g2, v, none⟩ = some (.int .u64 (nrB p2 q2 m2 v : Nat))))
  case first =>
    go_region_held3 (fun W => (W.cell? ⟨w.heap.size, 0, none⟩ = some (.int .i64 n1) ∧ W.cell? ⟨w.heap.size, 1, none⟩ = some (.slice ad1 m1 cap1)) ∧ (W.cell? ⟨w.heap.size + 1, 0, none⟩ = some (.int .i64 n2) ∧ W.cell? ⟨w.heap.size + 1, 1, none⟩ = some (.slice ad2 m2 cap2)))
      ((refine HS.out _ ?_; repeat (first | exact hcur0 | exact hcur | exact hcur0 | exact hB5 | exact hB4 | refine Below.drew ?_ | refine more_belowZ ?_ (Nat.le_refl _) _ | refine setBZ ?_ (by (try have h4s := hB4.size); (try have h5s := hB5.size); omega) _)))
      (first
        | (go_at_call 43; (have hz7 := hB4; clear hz7); refine (HN2.out _ ?hcw).mono ?_; (case hcw => repeat (first | exact hB4 | refine Below.drew ?_ | refine more_belowZ ?_ (Nat.le_refl _) _)); rintro e w5 ⟨g5, rfl, hf5⟩; have hQ5 : Below w4.heap.size w4 w5 := Below.trans (by repeat (first | exact Below.refl _ _ | refine more_belowZ ?_ (Nat.le_refl _) _)) (hf5.below.mono (by first | exact Nat.le_refl _ | (simp; done) | (simp; omega))); (try (have hj1 := boxK ⟨hk1a, hk1b⟩ hQ5; obtain ⟨hj1a, hj1b⟩ := hj1; have hj1l := cell_lt hj1a; (try simp only at hj1l))); (try (have hj2 := boxK ⟨hk2a, hk2b⟩ hQ5; obtain ⟨hj2a, hj2b⟩ := hj2; have hj2l := cell_lt hj2a; (try simp only at hj2l))); (try (have hj5 := boxK ⟨hk5a, hk5b⟩ hQ5; obtain ⟨hj5a, hj5b⟩ := hj5; have hj5l := cell_lt hj5a; (try simp only at hj5l))); (try (have hj6 := boxK ⟨hk6a, hk6b⟩ hQ5; obtain ⟨hj6a, hj6b⟩ := hj6; have hj6l := cell_lt hj6a; (try simp only at hj6l))); (try (have hk3 := boxA hf5.below; (try rw [World.size_alloc] at hk3); (try rw [World.size_drew] at hk3); obtain ⟨hk3a, hk3b⟩ := hk3; have hk3l := cell_lt hk3a; (try simp only at hk3l))); (try (have hk4 := boxB hf5.below; (try rw [World.size_alloc] at hk4); (try rw [World.size_drew] at hk4); obtain ⟨hk4a, hk4b⟩ := hk4; have hk4l := cell_lt hk4a; (try simp only at hk4l))); have hB5 : Below W0.heap.size W0 w5 := hB4.trans (hQ5.mono hB4.size))
        | (go_at_call 43; refine (HN1.out _ ?hcw).mono ?_; (case hcw => repeat (first | exact hcur0 | exact hcur | refine Below.drew ?_ | refine more_belowZ ?_ (Nat.le_refl _) _)); rintro e w4 ⟨g4, rfl, hf4⟩; have hB4 : Below W0.heap.size W0 w4 := Below.trans (by repeat (first | exact hcur0 | exact hcur | refine Below.drew ?_ | refine more_belowZ ?_ (Nat.le_refl _) _)) (hf4.below.mono (by first | exact Nat.le_refl _ | (simp; done) | (simp; omega))); (try (have hk1 := boxA hf4.below; (try rw [World.size_alloc] at hk1); (try rw [World.size_drew] at hk1); obtain ⟨hk1a, hk1b⟩ := hk1; have hk1l := cell_lt hk1a; (try simp only at hk1l))); (try (have hk2 := boxB hf4.below; (try rw [World.size_alloc] at hk2); (try rw [World.size_drew] at hk2); obtain ⟨hk2a, hk2b⟩ := hk2; have hk2l := cell_lt hk2a; (try simp only at hk2l))); (try (have hk5 := boxA (undrew hf4.below); (try rw [World.size_alloc] at hk5); (try rw [World.size_drew] at hk5); obtain ⟨hk5a, hk5b⟩ := hk5; have hk5l := cell_lt hk5a; (try simp only at hk5l))); (try (have hk6 := boxB (undrew hf4.below); (try rw [World.size_alloc] at hk6); (try rw [World.size_drew] at hk6); obtain ⟨hk6a, hk6b⟩ := hk6; have hk6l := cell_lt hk6a; (try simp only at hk6l)))))
    all_goals
      go_wp2_with fail
      go_meet
      have hlo4 := hf4.hg
      have hlt4 := hf4.lt
      have hlo5 := hf5.hg
      have hlt5 := hf5.lt
      have h4s := hB4.size
      have h5s := hQ5.size
      simp at hlo4 hlo5
      refine ⟨_, _, g4, g5, rfl, rfl, ?_, ?_, ?_, ?_, ?_⟩
      · show Below _ _ _
        repeat (first | exact hB5 | refine Below.drew ?_ | refine more_belowZ ?_ (Nat.le_refl _) _ | refine setBZ ?_ (by omega) _)
      · show _ = _
        go_simp
      · show _ = _
        go_simp
      · intro v hv
        refine keepRow (W := w4) ?_ (hf4.row v hv)
        repeat (first | exact (KeepB.refl _ _ _).below hlt4 hQ5 | refine KeepB.alloc ?_ (by first | omega | (simp; omega) | (simp; done)) _ | refine KeepB.set ?_ (by omega) _)
      · intro v hv
        refine keepRow (W := w5) ?_ (hf5.row v hv)
        repeat (first | exact KeepB.refl _ _ _ | refine KeepB.alloc ?_ (by first | omega | (simp; omega) | (simp; done)) _ | refine KeepB.set ?_ (by omega) _)
  case rest =>
    obtain ⟨B5, B6, g1, g2, rfl, rfl, HBw, HC5, HC6, HR1, HR2⟩ := hcut
    have HJN : Hid (Calls Tryd.prog 29 #[.int .i64 (n1 * n2 : Nat), .func (.func 48) #[] #[.pointer (some ⟨B5, 0, none⟩), .pointer (some ⟨w.heap.size + 1, 0, none⟩), .pointer (some ⟨B6, 0, none⟩)]] wc fun e w' => ∃ v, e = .returned (.agg #[.int .i64 (n1 * n2 : Nat), v]) ∧ w'.ownsRow wc.heap.size 51 2 v (edTo (bothJ (nrB p1 q1 m1) (nrB p2 q2 m2) n2) (n1 * n2) (n1 * n2)).length (pairCells (edTo (bothJ (nrB p1 q1 m1) (nrB p2 q2 m2) n2) (n1 * n2) (n1 * n2))) ∧ Below wc.heap.size wc w') :=
      joinedBy_any 48 _ (n1 * n2) (bothJ (nrB p1 q1 m1) (nrB p2 q2 m2) n2) wc hn (enters_of Tryd.func48 (by kernel_rfl) rfl) (fun i k W hik hk hb => bothF_any (nrB p1 q1 m1) (nrB p2 q2 m2) B5 (w.heap.size + 1) B6 g1 g2 n1 n2 i k W hn hik hk
        (by rw [hb.cell (cell_lt HC5.out)]; exact HC5.out) (HS.out _ (HBw.out.trans (hb.mono HBw.out.size))).2.1 (by rw [hb.cell (cell_lt HC6.out)]; exact HC6.out)
        (fun v hv => by rw [hb.cell (cell_lt (HR1.out v hv))]; exact HR1.out v hv) (fun v hv => by rw [hb.cell (cell_lt (HR2.out v hv))]; exact HR2.out v hv)
        (fun v hv => nrB_lt p1 q1 m1 v 64 (by omega) (fun k hk => by have := hp1 k hk; omega)) (fun v hv => nrB_lt p2 q2 m2 v 64 (by omega) (fun k hk => by have := hp2 k hk; omega)))
    have hmul : (n1 : Int) * (n2 : Int) = ((n1 * n2 : Nat) : Int) := by simp
    have hmI : ((n1 * n2 : Nat) : Int) ≤ 16 := by omega
    have HRES : Hid (∀ W, Below wc.heap.size wc W → W.cell? ⟨w.heap.size + 1 + 1, 0, none⟩ = some (.int .i64 0) ∧ W.cell? ⟨w.heap.size + 1 + 1, 1, none⟩ = some (.slice none 0 0) ∧ W.frozen? ⟨w.heap.size + 1 + 1, 0, none⟩ = false ∧ W.frozen? ⟨w.heap.size + 1 + 1, 1, none⟩ = false) := fun W hb => HR0.out W (HBw.out.trans (hb.mono HBw.out.size))
    have HBE : Hid (∀ W, Below wc.heap.size wc W → Below w.heap.size w W) := fun W hb => HB0.out.trans ((HBw.out.trans (hb.mono HBw.out.size)).mono HB0.out.size)
    have HSZ2 : Hid (w.heap.size + 1 + 1 < wc.heap.size) := by have h1 := HSZ.out; have h2 := HBw.out.size; show _ < _; omega
    obtain ⟨⟨s0, s1⟩, ⟨t0, t1⟩⟩ := HS.out _ HBw.out
    clear HN1 HN2 hp1 hp2 HC5 HC6 HR1 HR2 HW0 HS HR0 HB0 HSZ
    generalize hJE : edTo (bothJ (nrB p1 q1 m1) (nrB p2 q2 m2) n2) (n1 * n2) (n1 * n2) = E at *
    have HJE := Hid.mk' hJE
    clear hJE
    generalize hM : n1 * n2 = M at *
    have HM := Hid.mk' hM
    clear hM
    go_wp2_with fail
    refine HJN.out.mono ?_
    rintro e w8 ⟨v8, rfl, h8, hb8⟩
    obtain ⟨r0, r1, f0, f1⟩ := HRES.out _ hb8
    have HB8 := Hid.mk' (HBE.out _ hb8)
    have HO8 := Hid.mk' h8
    obtain ⟨ao, co, rfl, _⟩ := row_shape2 h8
    clear h8 hb8 HJN HRES s0 s1 t0 t1
    go_wp2_with fail
    rw [HM.out, HJE.out]
    refine bodyPost_ret (v := .agg #[.int .i64 (M : Int), .slice ao E.length co]) (by simp [results, Tryd.results36, go_sem, r0, r1]) rfl ⟨_, rfl, ?_, ?_⟩
    · have g1 := ownsRow_setCell_below HO8.out (a := ⟨w.heap.size + 1 + 1, 0, none⟩) HSZ2.out (.int .i64 (M : Int))
      have g2 := ownsRow_setCell_below g1 (a := ⟨w.heap.size + 1 + 1, 1, none⟩) HSZ2.out (.slice ao E.length co)
      exact g2.mono (by have := HSZ2.out; omega)
    · exact (HB8.out.setCell (by show w.heap.size ≤ w.heap.size + 1 + 1; omega) _).setCell (by show w.heap.size ≤ w.heap.size + 1 + 1; omega) _
end Go.Proofs.YtojljmapdafmaaaDoor
