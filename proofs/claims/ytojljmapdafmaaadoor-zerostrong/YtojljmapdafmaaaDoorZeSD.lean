/- The document's StrongOf: two right graphs at once. -/
import Derived.Test.YtojljmapdafmaaaDoorZeSt
namespace Go.Proofs.YtojljmapdafmaaaDoor
open Go.RowKit

set_option maxRecDepth 100000 in
set_option maxHeartbeats 16000000 in
theorem StrongOf_any (n1 n2 m1 m2 : Nat) (e1 e2 : Value) (p1 q1 p2 q2 : Nat → Nat) (w : World) (hE1 : EdAt w e1 m1 (fun i => (p1 i : Int)) (fun i => (q1 i : Int))) (hE2 : EdAt w e2 m2 (fun i => (p2 i : Int)) (fun i => (q2 i : Int))) (hn2 : n2 ≤ 16) (hn : n1 * n2 ≤ 16) (hm1 : m1 ≤ 1000) (hm2 : m2 ≤ 1000) (hp1 : ∀ k, k < m1 → p1 k < q1 k ∧ q1 k < n1) (hp2 : ∀ k, k < m2 → p2 k < q2 k ∧ q2 k < n2) :
    Calls Tryd.prog 23 #[.agg #[.int .i64 n1, e1], .agg #[.int .i64 n2, e2]] w fun e w' => ∃ v, e = .returned (.agg #[.int .i64 (n1 * n2 : Nat), v]) ∧ w'.ownsRow w.heap.size 51 2 v (edTo (bothJ (nrB p1 q1 m1) (nrB p2 q2 m2) n2) (n1 * n2) (n1 * n2)).length (pairCells (edTo (bothJ (nrB p1 q1 m1) (nrB p2 q2 m2) n2) (n1 * n2) (n1 * n2))) ∧ Below w.heap.size w w' := by
  obtain ⟨i0, hi, hi2⟩ := Option.map_eq_some_iff.1 Tryd.infoPair
  obtain ⟨hz, hsz, hby⟩ : i0.zero = some (.agg #[.int .i64 0, .int .i64 0]) ∧ i0.size = 2 ∧ i0.bytes = 16 := by simpa using hi2
  have HINF : Hid (Tryd.prog.info? 51 = some i0 ∧ i0.zero = some (.agg #[.int .i64 0, .int .i64 0]) ∧ i0.size = 2 ∧ i0.bytes = 16) := ⟨hi, hz, hsz, hby⟩
  clear hi hi2 hz hsz hby
  obtain ⟨ad1, cap1, rfl, -⟩ := id hE1
  obtain ⟨ad2, cap2, rfl, -⟩ := id hE2
  obtain ⟨Wa, hWa⟩ : ∃ W, W = (w.alloc (.cells #[.int .i64 n1, .slice ad1 m1 cap1] 24)).alloc (.cells #[.int .i64 n2, .slice ad2 m2 cap2] 24) := ⟨_, rfl⟩
  have hba : Below w.heap.size w Wa := by rw [hWa]; exact ((Below.refl _ _).alloc (Nat.le_refl _) _).alloc (by simp) _
  have a0 : Wa.cell? ⟨w.heap.size, 0, none⟩ = some (.int .i64 n1) := by rw [hWa]; go_simp
  have a1 : Wa.cell? ⟨w.heap.size, 1, none⟩ = some (.slice ad1 m1 cap1) := by rw [hWa]; go_simp
  have b0 : Wa.cell? ⟨w.heap.size + 1, 0, none⟩ = some (.int .i64 n2) := by rw [hWa]; go_simp
  have b1 : Wa.cell? ⟨w.heap.size + 1, 1, none⟩ = some (.slice ad2 m2 cap2) := by rw [hWa]; go_simp
  have HS : Hid (∀ W, Below Wa.heap.size Wa W → (W.cell? ⟨w.heap.size, 0, none⟩ = some (.int .i64 n1) ∧ W.cell? ⟨w.heap.size, 1, none⟩ = some (.slice ad1 m1 cap1)) ∧ (W.cell? ⟨w.heap.size + 1, 0, none⟩ = some (.int .i64 n2) ∧ W.cell? ⟨w.heap.size + 1, 1, none⟩ = some (.slice ad2 m2 cap2))) := fun W hb => ⟨⟨by rw [hb.cell (cell_lt a0)]; exact a0, by rw [hb.cell (cell_lt a1)]; exact a1⟩, ⟨by rw [hb.cell (cell_lt b0)]; exact b0, by rw [hb.cell (cell_lt b1)]; exact b1⟩⟩
  have HJ1 : Hid (∀ (W : World) (x y : Nat), Below Wa.heap.size Wa W → Calls Tryd.prog 35 #[.agg #[.int .i64 n1, .slice ad1 m1 cap1], .int .i64 (x : Nat), .int .i64 (y : Nat)] W fun e w' => e = .returned (.bool (joinB p1 q1 m1 x y)) ∧ Below W.heap.size W w') := fun W x y hb => Joined_any n1 m1 _ p1 q1 x y W ((hE1.later hba).later hb) hm1
  have HJ2 : Hid (∀ (W : World) (x y : Nat), Below Wa.heap.size Wa W → Calls Tryd.prog 35 #[.agg #[.int .i64 n2, .slice ad2 m2 cap2], .int .i64 (x : Nat), .int .i64 (y : Nat)] W fun e w' => e = .returned (.bool (joinB p2 q2 m2 x y)) ∧ Below W.heap.size W w') := fun W x y hb => Joined_any n2 m2 _ p2 q2 x y W ((hE2.later hba).later hb) hm2
  have HB : Hid (∀ i k, bothJ (nrB p1 q1 m1) (nrB p2 q2 m2) n2 i k = ((decide (i / n2 = k / n2) || joinB p1 q1 m1 (i / n2) (k / n2)) && (decide (i % n2 = k % n2) || joinB p2 q2 m2 (i % n2) (k % n2)))) := fun i k => by
    unfold bothJ
    rw [nrB_test p1 q1 m1 _ _ (fun k hk => (hp1 k hk).1), nrB_test p2 q2 m2 _ _ (fun k hk => (hp2 k hk).1)]
    have e1 : decide (k / n2 = i / n2) = decide (i / n2 = k / n2) := by rw [decide_eq_decide]; exact ⟨Eq.symm, Eq.symm⟩
    have e2 : decide (k % n2 = i % n2) = decide (i % n2 = k % n2) := by rw [decide_eq_decide]; exact ⟨Eq.symm, Eq.symm⟩
    rw [e1, e2]
  obtain ⟨W0, hW0⟩ : ∃ W0, W0 = (Wa.alloc (.cells #[.int .i64 0, .slice none 0 0] 24)).alloc (.cells #[.int .i64 (n1 * n2 : Nat), .slice none 0 0] 24) := ⟨_, rfl⟩
  have hsa : Wa.heap.size = w.heap.size + 1 + 1 := by rw [hWa]; simp
  have h0 : JoAt Wa W0 Wa.heap.size (Wa.heap.size + 1) (n1 * n2) (.slice none 0 0) [] := by
    rw [hW0]
    refine ⟨((Below.refl _ _).alloc (Nat.le_refl _) _).alloc (by simp) _, by omega, by go_simp, by go_simp, ⟨by go_simp, by go_simp⟩, by go_simp, by go_simp, by go_simp, ⟨rfl, Or.inl ⟨rfl, rfl⟩⟩, by simp⟩
  rw [hsa] at h0
  have H0 := Hid.mk' h0
  have HW0 : Hid (W0 = (((w.alloc (.cells #[.int .i64 n1, .slice ad1 m1 cap1] 24)).alloc (.cells #[.int .i64 n2, .slice ad2 m2 cap2] 24)).alloc (.cells #[.int .i64 0, .slice none 0 0] 24)).alloc (.cells #[.int .i64 (n1 * n2 : Nat), .slice none 0 0] 24)) := by show _ = _; rw [hW0, hWa]
  have HBA := Hid.mk' hba
  have HSA := Hid.mk' hsa
  have hmul : (n1 : Int) * (n2 : Int) = ((n1 * n2 : Nat) : Int) := by simp
  have hmI : ((n1 * n2 : Nat) : Int) ≤ 16 := by omega
  have hn2I : (n2 : Int) ≤ 16 := by omega
  have HN0 : Hid (0 < n1 * n2 → 0 < n2) := fun h => by
    rcases Nat.eq_zero_or_pos n2 with h' | h'
    · rw [h', Nat.mul_zero] at h; omega
    · exact h'
  generalize hJ : bothJ (nrB p1 q1 m1) (nrB p2 q2 m2) n2 = J at *
  generalize hM : n1 * n2 = M at *
  clear hJ hM h0 hW0 hWa hba hsa hE1 hE2 a0 a1 b0 b1 hp1 hp2
  go_enter Tryd.func23, Tryd.ntmps23
  go_upto_region 2 with fail
  rw [← HW0.out]
  clear HW0
  go_wp2_with fail
  go_loopw [6] (fun iv wr => ∃ (i : Nat) (ov : Value), i ≤ M ∧ iv = .int .i64 i ∧ Hid (JoAt Wa wr (w.heap.size + 1 + 1) (w.heap.size + 1 + 1 + 1) M ov (edTo J M i))) (fun iv _ => M - (intOf iv).toNat)
  case atStart => exact ⟨0, _, Nat.zero_le _, rfl, H0⟩
  case round =>
    clear H0
    obtain ⟨i, ov, hi, rfl, HO⟩ := hrel
    have hi0 : (0 : Int) ≤ (i : Int) := by omega
    have gg := HO.out.g0
    rcases Nat.lt_or_ge i M with h1 | h1
    · have hin : (i : Int) < (M : Int) := by omega
      rename World => Wo
      go_wp2_with fail
      clear gg
      go_loopw [7] (fun kv wr => ∃ (k : Nat) (ov : Value), i < k ∧ k ≤ M ∧ kv = .int .i64 k ∧ Hid (JoAt Wa wr (w.heap.size + 1 + 1) (w.heap.size + 1 + 1 + 1) M ov (edTo J M i ++ edRow J i k))) (fun kv _ => M - (intOf kv).toNat)
      case atStart =>
        refine ⟨i + 1, ov, Nat.lt_succ_self _, h1, by go_num, ?_⟩
        rw [edRow_low J i (i + 1) (Nat.le_refl _), List.append_nil]
        exact HO
      case round =>
        clear HO
        obtain ⟨k, ov, hik, hk, rfl, HO⟩ := hrel
        have hk0 : (0 : Int) ≤ (k : Int) := by omega
        have gg := HO.out.g0
        rcases Nat.lt_or_ge k M with h2 | h2
        · have hkn : (k : Int) < (M : Int) := by omega
          have HNX : Hid (edRow J i (k + 1) = if J i k = true then edRow J i k ++ [(i, k)] else edRow J i k) := by
            show _ = _
            rw [edRow]
            by_cases hj : J i k = true
            · rw [if_pos ⟨hik, hj⟩, if_pos hj]
            · rw [if_neg (fun h => hj h.2), if_neg hj]
          have HLE : Hid ((edTo J M i ++ edRow J i k).length ≤ 1000) := by
            have a1 := edTo_length J M i
            have a2 := edRow_length J i k
            have a3 : i * M ≤ 16 * 16 := Nat.mul_le_mul (by omega) hn
            show _ ≤ _
            rw [List.length_append]
            omega
          have hn0 : 0 < n2 := HN0.out (by omega)
          have hz : ¬ n2 = 0 := by omega
          have x1 : (i : Int).tdiv (n2 : Int) = ((i / n2 : Nat) : Int) := by rw [Int.tdiv_eq_ediv_of_nonneg (by omega)]; simp
          have x2 : (k : Int).tdiv (n2 : Int) = ((k / n2 : Nat) : Int) := by rw [Int.tdiv_eq_ediv_of_nonneg (by omega)]; simp
          have x3 : (i : Int).tmod (n2 : Int) = ((i % n2 : Nat) : Int) := by rw [Int.tmod_eq_emod_of_nonneg (by omega)]; simp
          have x4 : (k : Int).tmod (n2 : Int) = ((k % n2 : Nat) : Int) := by rw [Int.tmod_eq_emod_of_nonneg (by omega)]; simp
          have y1 : i / n2 ≤ 16 := Nat.le_trans (Nat.div_le_self _ _) (by omega)
          have y2 : k / n2 ≤ 16 := Nat.le_trans (Nat.div_le_self _ _) (by omega)
          have HJV := Hid.mk' (HB.out i k)
          generalize i / n2 = I1 at *
          generalize k / n2 = K1 at *
          generalize i % n2 = I2 at *
          generalize k % n2 = K2 at *
          have w1' : IntKind.i64.wrap (I1 : Int) = (I1 : Int) := by simp only [IntKind.wrap_i64]; omega
          have w2' : IntKind.i64.wrap (K1 : Int) = (K1 : Int) := by simp only [IntKind.wrap_i64]; omega
          clear hn0 y1 y2
          rename World => Wi
          obtain ⟨⟨s0, s1⟩, ⟨t0, t1⟩⟩ := HS.out _ HO.out.below
          go_upto_region 8 with fail
          clear gg
          go_cut [8] from 24 to 83 (fun s wx => s = .bool (decide (I1 = K1) || joinB p1 q1 m1 I1 K1) ∧ Hid (JoAt Wa wx (w.heap.size + 1 + 1) (w.heap.size + 1 + 1 + 1) M ov (edTo J M i ++ edRow J i k)))
          case first =>
            by_cases hq : I1 = K1
            · have d1 : ((I1 : Int) == (K1 : Int)) = true := by simp [hq]
              have HD : Hid ((decide (I1 = K1) || joinB p1 q1 m1 I1 K1) = true) := by show _ = _; rw [decide_eq_true hq]; rfl
              clear hq
              go_quiet (fail)
              have HOQ := Hid.mk' (HO.out.later (below_drewN (Below.refl _ _) nq))
              go_wp2_with fail
              go_meet
              exact ⟨by rw [HD.out], HOQ⟩
            · have d1 : ((I1 : Int) == (K1 : Int)) = false := by simp; omega
              have HD : Hid ((decide (I1 = K1) || joinB p1 q1 m1 I1 K1) = joinB p1 q1 m1 I1 K1) := by show _ = _; rw [decide_eq_false hq]; rfl
              clear hq
              have hcur0 : Below Wi.heap.size Wi Wi := Below.refl _ _
              have hcur : Below Wi.heap.size Wi Wi.drew := hcur0.drew
              have HSW : Hid (∀ W, Below Wi.heap.size Wi W → (W.cell? ⟨w.heap.size, 0, none⟩ = some (.int .i64 n1) ∧ W.cell? ⟨w.heap.size, 1, none⟩ = some (.slice ad1 m1 cap1)) ∧ (W.cell? ⟨w.heap.size + 1, 0, none⟩ = some (.int .i64 n2) ∧ W.cell? ⟨w.heap.size + 1, 1, none⟩ = some (.slice ad2 m2 cap2))) := fun W hb => HS.out _ (HO.out.below.trans (hb.mono HO.out.below.size))
              have HJW : Hid (∀ W, Below Wi.heap.size Wi W → Calls Tryd.prog 35 #[.agg #[.int .i64 n1, .slice ad1 m1 cap1], .int .i64 (I1 : Nat), .int .i64 (K1 : Nat)] W fun e w' => e = .returned (.bool (joinB p1 q1 m1 I1 K1)) ∧ Below W.heap.size W w') := fun W hb => HJ1.out W I1 K1 (HO.out.below.trans (hb.mono HO.out.below.size))
              clear s0 s1 t0 t1
              go_region_held3 (fun W => (W.cell? ⟨w.heap.size, 0, none⟩ = some (.int .i64 n1) ∧ W.cell? ⟨w.heap.size, 1, none⟩ = some (.slice ad1 m1 cap1)) ∧ (W.cell? ⟨w.heap.size + 1, 0, none⟩ = some (.int .i64 n2) ∧ W.cell? ⟨w.heap.size + 1, 1, none⟩ = some (.slice ad2 m2 cap2)))
                (first | exact HSW.out _ hcur | exact HSW.out _ hcur0 | exact HSW.out _ hB5)
                (first | (go_at_call 35; refine (HJW.out _ hcur).mono ?_; rintro e w5 ⟨rfl, hb5⟩; have hB5 := hcur.trans (hb5.mono hcur.size); clear hb5))
              have HOQ := Hid.mk' (HO.out.later hB5)
              go_wp2_with fail
              go_meet
              exact ⟨by rw [HD.out], HOQ⟩
          case rest =>
            obtain ⟨rfl, HOJ⟩ := hcut
            clear HO s0 s1 t0 t1
            rename World => Wj
            obtain ⟨⟨s0, s1⟩, ⟨t0, t1⟩⟩ := HS.out _ HOJ.out.below
            generalize hB1 : (decide (I1 = K1) || joinB p1 q1 m1 I1 K1) = B1 at *
            go_wp2_with fail
            go_cut [9] from 24 to 83 (fun s wx => s = .bool (decide (I2 = K2) || joinB p2 q2 m2 I2 K2) ∧ Hid (JoAt Wa wx (w.heap.size + 1 + 1) (w.heap.size + 1 + 1 + 1) M ov (edTo J M i ++ edRow J i k)))
            case first =>
              by_cases hq : I2 = K2
              · have d1 : ((I2 : Int) == (K2 : Int)) = true := by simp [hq]
                have HD : Hid ((decide (I2 = K2) || joinB p2 q2 m2 I2 K2) = true) := by show _ = _; rw [decide_eq_true hq]; rfl
                clear hq
                go_quiet (fail)
                have HOQ := Hid.mk' (HOJ.out.later (below_drewN (Below.refl _ _) nq))
                go_wp2_with fail
                go_meet
                exact ⟨by rw [HD.out], HOQ⟩
              · have d1 : ((I2 : Int) == (K2 : Int)) = false := by simp; omega
                have HD : Hid ((decide (I2 = K2) || joinB p2 q2 m2 I2 K2) = joinB p2 q2 m2 I2 K2) := by show _ = _; rw [decide_eq_false hq]; rfl
                clear hq
                have hcur0 : Below Wj.heap.size Wj Wj := Below.refl _ _
                have hcur : Below Wj.heap.size Wj Wj.drew := hcur0.drew
                have HSW : Hid (∀ W, Below Wj.heap.size Wj W → (W.cell? ⟨w.heap.size, 0, none⟩ = some (.int .i64 n1) ∧ W.cell? ⟨w.heap.size, 1, none⟩ = some (.slice ad1 m1 cap1)) ∧ (W.cell? ⟨w.heap.size + 1, 0, none⟩ = some (.int .i64 n2) ∧ W.cell? ⟨w.heap.size + 1, 1, none⟩ = some (.slice ad2 m2 cap2))) := fun W hb => HS.out _ (HOJ.out.below.trans (hb.mono HOJ.out.below.size))
                have HJW : Hid (∀ W, Below Wj.heap.size Wj W → Calls Tryd.prog 35 #[.agg #[.int .i64 n2, .slice ad2 m2 cap2], .int .i64 (I2 : Nat), .int .i64 (K2 : Nat)] W fun e w' => e = .returned (.bool (joinB p2 q2 m2 I2 K2)) ∧ Below W.heap.size W w') := fun W hb => HJ2.out W I2 K2 (HOJ.out.below.trans (hb.mono HOJ.out.below.size))
                clear s0 s1 t0 t1
                go_region_held3 (fun W => (W.cell? ⟨w.heap.size, 0, none⟩ = some (.int .i64 n1) ∧ W.cell? ⟨w.heap.size, 1, none⟩ = some (.slice ad1 m1 cap1)) ∧ (W.cell? ⟨w.heap.size + 1, 0, none⟩ = some (.int .i64 n2) ∧ W.cell? ⟨w.heap.size + 1, 1, none⟩ = some (.slice ad2 m2 cap2)))
                  (first | exact HSW.out _ hcur | exact HSW.out _ hcur0 | exact HSW.out _ hB5)
                  (first | (go_at_call 35; refine (HJW.out _ hcur).mono ?_; rintro e w5 ⟨rfl, hb5⟩; have hB5 := hcur.trans (hb5.mono hcur.size); clear hb5))
                have HOQ := Hid.mk' (HOJ.out.later hB5)
                go_wp2_with fail
                go_meet
                exact ⟨by rw [HD.out], HOQ⟩
            case rest =>
              obtain ⟨rfl, HOL⟩ := hcut
              clear HOJ s0 s1 t0 t1
              rename World => Wl
              generalize hB2 : (decide (I2 = K2) || joinB p2 q2 m2 I2 K2) = B2 at *
              clear hB1 hB2
              cases hbb : (B1 && B2)
              · have e1 : edRow J i (k + 1) = edRow J i k := by have := HNX.out; rw [HJV.out, hbb] at this; simpa using this
                have HO3 := HOL
                rw [← e1] at HO3
                clear e1 HNX HLE HOL HJV
                cases B1
                · go_wp2_with fail
                  exact ⟨⟨k + 1, ov, by omega, h2, by go_num, HO3⟩, by simp [intOf]; omega⟩
                · cases B2
                  · go_wp2_with fail
                    exact ⟨⟨k + 1, ov, by omega, h2, by go_num, HO3⟩, by simp [intOf]; omega⟩
                  · cases hbb
              · have e1 : edTo J M i ++ edRow J i (k + 1) = (edTo J M i ++ edRow J i k) ++ [(i, k)] := by have := HNX.out; rw [HJV.out, hbb, if_pos rfl] at this; rw [this, List.append_assoc]
                have HE1 := Hid.mk' e1
                have g1 := HOL.out.g1
                have fg := HOL.out.fg
                have hlt := HOL.out.lt
                obtain ⟨rfl, rfl⟩ : B1 = true ∧ B2 = true := by simpa using hbb
                clear e1 HNX HJV hbb
                generalize edTo J M i ++ edRow J i k = E at *
                have hle := HLE.out
                go_wp2_with (at_builtin; go_must (refine wpList_append_lies _ rfl _ _ _ rfl (w.heap.size + 1 + 1 + 1 + 1) 51 i0 _ 2 16 Tryd.underlying22 HINF.out.1 HINF.out.2.1 HINF.out.2.2.1 HINF.out.2.2.2 rfl (by omega) ov _ _ rfl (HOL.out.own.alloc _) ⟨Wl.heap.size, 0, none⟩ 1 1 [.int .i64 (i : Int), .int .i64 (k : Int)] rfl rfl (two_newG _ _ _ _) (by simp [Value.oneCell']) (by omega) (by unfold maxLen; omega) (by omega) (by simp; omega) _ rfl ?_; intro g' cap' w4 hown4 hgrow4 hat4 hlt4; have HJ4 := Hid.mk' (HOL.out.push (E' := E ++ [(i, k)]) hgrow4 (by rw [pairCells_snoc, List.length_append]; exact hown4)); obtain ⟨z1, z2⟩ := HOL.out.pushAt hgrow4; clear hown4 hgrow4 hat4 hlt4))
                refine ⟨⟨k + 1, .slice (some ⟨g', 0, none⟩) (E.length + 1) cap', by omega, h2, by go_num, ?_⟩, by simp [intOf]; omega⟩
                rw [HE1.out]
                exact HJ4
        · obtain rfl : k = M := by omega
          go_wp2_with fail
          exact ⟨⟨i + 1, ov, h1, by go_num, HO⟩, by simp [intOf]; omega⟩
    · obtain rfl : i = M := by omega
      have g1 := HO.out.g1
      have r0 := HO.out.r0
      have r1 := HO.out.r1
      have f0 := HO.out.fr.1
      have f1 := HO.out.fr.2
      obtain ⟨ao, co, rfl, _⟩ := row_shape2 HO.out.own
      go_wp2_with fail
      refine bodyPost_ret (v := .agg #[.int .i64 i, .slice ao (edTo J i i).length co]) (by simp [results, Tryd.results23, go_sem, r0, r1]) rfl ⟨_, rfl, ?_, ?_⟩
      · have h1 := ownsRow_setCell_below HO.out.own (a := ⟨w.heap.size + 1 + 1, 0, none⟩) (by show w.heap.size + 1 + 1 < _; omega) (.int .i64 (i : Int))
        have h2 := ownsRow_setCell_below h1 (a := ⟨w.heap.size + 1 + 1, 1, none⟩) (by show w.heap.size + 1 + 1 < _; omega) (.slice ao (edTo J i i).length co)
        exact h2.mono (by omega)
      · have hbw : Below w.heap.size w wr := HBA.out.trans (HO.out.below.mono HBA.out.size)
        exact (hbw.setCell (by show w.heap.size ≤ w.heap.size + 1 + 1; omega) _).setCell (by show w.heap.size ≤ w.heap.size + 1 + 1; omega) _
end Go.Proofs.YtojljmapdafmaaaDoor
