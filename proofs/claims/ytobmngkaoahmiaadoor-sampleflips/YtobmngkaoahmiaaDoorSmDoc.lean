/- The document's tree: PowerAbove, LeavesAt, DrawOf. -/
import Derived.Test.YtobmngkaoahmiaaDoorSmDw
namespace Go.Proofs.YtobmngkaoahmiaaDoor
open Go.RowKit

set_option maxRecDepth 100000 in
set_option maxHeartbeats 1000000 in
theorem PowerAbove_any (S : Nat) (w : World) (h0 : 0 < S) (h4 : S ≤ 4096) :
    Calls Tryd.prog 44 #[.int .i64 S] w fun e w' => e = .returned (.tuple #[.int .i64 ((2 ^ dpT S : Nat) : Int), .int .i64 (dpT S : Int)]) ∧ w' = w := by
  have HG := Hid.mk' (dpT_ge S)
  have HL : Hid (∀ k, k < dpT S → 2 ^ k < S) := fun k hk => dpT_lt hk
  have HP := Hid.mk' (dpT_pow h4 h0)
  have HD := Hid.mk' (dpT_le h4 h0)
  generalize dpT S = D at *
  go_enter Tryd.func44, Tryd.ntmps44
  go_wp2_with fail
  go_loop [4, 5] (fun p k => ∃ j : Nat, j ≤ D ∧ p = .int .i64 ((2 ^ j : Nat) : Int) ∧ k = .int .i64 j) (fun _ k => D - (intOf k).toNat)
  case atStart => exact ⟨0, Nat.zero_le _, rfl, rfl⟩
  case round =>
    obtain ⟨j, hj, rfl, rfl⟩ := hrel
    have hD := HD.out
    have hPj : 2 ^ j ≤ 4096 := Nat.le_trans (Nat.pow_le_pow_right (by decide) hj) HP.out
    rcases Nat.lt_or_ge j D with h1 | h1
    · have h2 := HL.out j h1
      have HN : Hid (2 ^ (j + 1) = 2 ^ j * 2) := Nat.pow_succ 2 j
      have h3 : ((2 ^ j : Nat) : Int) < (S : Int) := by omega
      generalize 2 ^ j = P at *
      go_wp2_with fail
      exact ⟨⟨j + 1, h1, by rw [HN.out]; go_num, by go_num⟩, by simp [intOf] <;> omega⟩
    · obtain rfl : j = D := by omega
      have h3 : ¬ ((2 ^ j : Nat) : Int) < (S : Int) := by have := HG.out; omega
      obtain ⟨P, hP⟩ : ∃ P, P = 2 ^ j := ⟨_, rfl⟩
      have HPP := Hid.mk' hP
      rw [← hP] at hPj h3 ⊢
      clear HL HG HP hP
      go_wp2_with fail
      go_ret2
      exact ⟨by rw [show ((2 : Int) ^ j) = (P : Int) by rw [HPP.out]; simp]; rfl, rfl⟩

theorem pow_half (D j : Nat) : 2 ^ D / 2 ^ j / 2 = 2 ^ D / 2 ^ (j + 1) := by rw [Nat.div_div_eq_div_mul, ← Nat.pow_succ]
theorem pow_le (D j : Nat) : 2 ^ D / 2 ^ j ≤ 2 ^ D := Nat.div_le_self _ _
theorem pow_part {D d : Nat} (h : d ≤ D) : 2 ^ D / 2 ^ d = 2 ^ (D - d) := by rw [Nat.pow_div h (by decide)]
theorem sum_partsS {z : Nat → Int} {n : Nat} (hok : OkW z n) : (∀ k, k ≤ n → -1000000 ≤ sumN z k ∧ sumN z k ≤ 1000000) ∧ ∀ i, i < n → -1000000 ≤ z i ∧ z i ≤ 1000000 :=
  ⟨fun k hk => by have := hok.part hk; omega, fun k hk => by have := hok.lt hk; omega⟩
set_option maxRecDepth 100000 in
set_option maxHeartbeats 4000000 in
theorem LeavesAt_any (b o cap n S d : Nat) (z : Nat → Int) (w : World) (h : RowAt w b o n z) (hok : OkW z n) (hS : sumN z n = (S : Int)) (hn : n ≤ 16) (hd : d ≤ dpT S) :
    Calls Tryd.prog 36 #[.slice (some ⟨b, o, none⟩) n cap, .int .i64 d] w fun e w' => ∃ v, e = .returned v ∧ StatesAt w' v (lvs (xT z n S) (dpT S - d) (n + 1)) ∧ Below w.heap.size w w' := by
  obtain ⟨i0, hi, hz0, hz1, hz2⟩ := info_parts Tryd.infoInt
  have HINF : Hid (Tryd.prog.info? 3 = some i0 ∧ i0.zero = some (.int .i64 0) ∧ i0.size = 1 ∧ i0.bytes = 8) := ⟨hi, hz0, hz1, hz2⟩
  clear hi hz0 hz1 hz2
  have hp := hok.pos
  have hl := hok.le
  have hS0 : 1 ≤ S := by omega
  have hS4 : S ≤ 4096 := by omega
  have HSM := Hid.mk' (fun (W : World) (hb : Below w.heap.size w W) => by
    have h9 := Sum_some b o cap n z W (h.later hb) (sum_partsS hok).1 (sum_partsS hok).2 (by omega)
    rw [hS] at h9
    exact h9)
  have HPA := Hid.mk' (fun W => PowerAbove_any S W hS0 hS4)
  have HRW := Hid.mk' (fun (W : World) (hb : Below w.heap.size w W) => h.later hb)
  have HP := Hid.mk' (dpT_pow hS4 hS0)
  have HG := Hid.mk' (dpT_ge S)
  have HD := Hid.mk' (dpT_le hS4 hS0)
  have HX : Hid (∀ i, i < n → z i = ((xT z n S i : Nat) : Int)) := fun i hi => by
    have := hok.nn i hi
    show z i = ((if i < n then (z i).toNat else 2 ^ dpT S - S : Nat) : Int)
    rw [if_pos hi]; omega
  have HXN : Hid (xT z n S n = 2 ^ dpT S - S) := if_neg (by omega)
  have HXL : Hid (∀ i, i < n + 1 → xT z n S i ≤ 4096) := fun i hi => by
    have h1 := sumX_ge (x := xT z n S) hi
    rw [xT_sum hok.nn hS] at h1
    have := HP.out
    omega
  clear h hok hS hp hl
  generalize xT z n S = x at *
  generalize dpT S = D at *
  have HPART := Hid.mk' (pow_part hd)
  have HHALF := Hid.mk' (pow_half D)
  have HLEP := Hid.mk' (pow_le D)
  have hD12 := HD.out
  have h04 : 2 ^ D ≤ 4096 := HP.out
  have h0S : S ≤ 2 ^ D := HG.out
  clear HD HP HG
  go_enter Tryd.func36, Tryd.ntmps36
  go_wp2_with fail
  refine (HSM.out _ (Below.refl _ _)).mono ?_
  rintro e w2 ⟨rfl, hw2⟩
  rw [hw2]
  clear hw2
  go_wp2_with fail
  refine (HPA.out _).mono ?_
  rintro e w2 ⟨rfl, hw2⟩
  rw [hw2]
  clear hw2 HPA
  obtain ⟨P, hP⟩ : ∃ P, P = 2 ^ D := ⟨_, rfl⟩
  rw [← hP] at h04 h0S HXN HPART HHALF HLEP ⊢
  have HPE := Hid.mk' hP
  clear hP
  go_wp2_with fail
  go_loop [8, 9] (fun q i => ∃ j : Nat, j ≤ d ∧ q = .int .i64 ((P / 2 ^ j : Nat) : Int) ∧ i = .int .i64 j) (fun _ i => d - (intOf i).toNat)
  case atStart => exact ⟨0, Nat.zero_le _, by simp, rfl⟩
  case round =>
    obtain ⟨j, hj, rfl, rfl⟩ := hrel
    have hPj := HLEP.out j
    rcases Nat.lt_or_ge j d with h1 | h1
    · have hjI : (j : Int) < (d : Int) := by omega
      have HN := Hid.mk' (HHALF.out j)
      have hj0 : (0 : Int) ≤ (j : Int) := by omega
      generalize P / 2 ^ j = Pj at *
      go_wp2_with fail
      exact ⟨⟨j + 1, h1, by rw [← HN.out]; go_num, by go_num⟩, by simp [intOf] <;> omega⟩
    · obtain rfl : j = d := by omega
      have hjI : ¬ (j : Int) < (j : Int) := by omega
      rw [HPART.out]
      have hK4 : 2 ^ (D - j) ≤ 4096 := by rw [← HPART.out]; omega
      have hK0 := Nat.two_pow_pos (D - j)
      have HLV : Hid (∀ i, lvs x (D - j) (i + 1) = lvs x (D - j) i ++ (if x i / 2 ^ (D - j) % 2 = 1 then [i] else [])) := fun i => rfl
      have HLL : Hid (∀ i, (lvs x (D - j) i).length ≤ i) := fun i => lvs_length i
      have HL0 : Hid (lvs x (D - j) 0 = []) := rfl
      clear HPART HHALF HLEP hPj HPE
      generalize 2 ^ (D - j) = K at *
      obtain ⟨lv, hlv⟩ : ∃ lv, lv = lvs x (D - j) := ⟨_, rfl⟩
      rw [← hlv] at HLV HLL HL0
      have HLVE := Hid.mk' hlv
      clear hlv
      go_wp2_with fail
      go_loopw [7, 10] (fun u i wr => ∃ k : Nat, k ≤ n + 1 ∧ i = .int .i64 k ∧ Hid (wr.ownsRow w.heap.size 3 1 u (lv k).length (cellL (natL (lv k)))) ∧ Hid (Below w.heap.size w wr)) (fun _ i _ => n + 1 - (intOf i).toNat)
      case atStart => exact ⟨0, Nat.zero_le _, rfl, by rw [HL0.out]; exact ⟨rfl, Or.inl ⟨rfl, rfl⟩⟩, Below.refl _ _⟩
      case round =>
        obtain ⟨k, hk, rfl, HO, HB⟩ := hrel
        have hk0 : (0 : Int) ≤ (k : Int) := by omega
        rcases Nat.lt_or_ge k (n + 1) with h2 | h2
        · have hkI : (k : Int) ≤ (n : Int) := by omega
          have HSW := Hid.mk' (HSM.out wr HB.out)
          have hx4 := HXL.out k h2
          have HNX := Hid.mk' (HLV.out k)
          have hll := HLL.out k
          obtain ⟨ad, cp, rfl, hle⟩ := row_shape HO.out
          obtain ⟨q, hq⟩ : ∃ q, x k / K = q := ⟨_, rfl⟩
          obtain ⟨u, hu⟩ : ∃ u, q % 2 = u := ⟨_, rfl⟩
          rw [hq, hu] at HNX
          have hql : q ≤ x k := by rw [← hq]; exact Nat.div_le_self _ _
          have hqI : ((x k : Nat) : Int) / (K : Int) = (q : Int) := by rw [← hq]; simp
          have huI : (q : Int) % 2 = (u : Int) := by omega
          have hu2 : u ≤ 1 := by omega
          have hK0I : (0 : Int) < (K : Int) := by omega
          have hKn : ¬ K = 0 := by omega
          have HOA := Hid.mk' (own_past HO.out ((Below.refl wr.heap.size wr).alloc (Nat.le_refl _) (.cells #[.int .i64 (k : Int)] 3)))
          have hsz := HB.out.size
          have HXK : Hid ((k < n → z k = ((x k : Nat) : Int)) ∧ (k = n → x k = P - S)) := ⟨fun h => HX.out k h, fun h => by rw [h]; exact HXN.out⟩
          have HPU : Hid (∀ (w3 : World) (g cap2 : Nat), (wr.alloc (.cells #[.int .i64 (k : Int)] 3)).grownBy w3 (Value.slice ad (lv k).length cp).ownBlock → w3.ownsRow w.heap.size 3 1 (.slice (some ⟨g, 0, none⟩) ((lv k).length + 1) cap2) ((lv k).length + 1) (cellL (natL (lv k)) ++ [.int .i64 (k : Int)]) → u = 1 → w3.ownsRow w.heap.size 3 1 (.slice (some ⟨g, 0, none⟩) ((lv k).length + 1) cap2) (lv (k + 1)).length (cellL (natL (lv (k + 1)))) ∧ Below w.heap.size w w3) := fun w3 g cap2 hgr how hu1 => by
            refine ⟨?_, ?_⟩
            · rw [HNX.out, if_pos hu1, natL_push, List.length_append]
              exact how
            · exact (HB.out.alloc HB.out.size _).grown hgr (HB.out.alloc HB.out.size _).size (fun q e => (HOA.out.lt q e).1)
          have HNO : Hid (u ≠ 1 → lv (k + 1) = lv k) := fun h => by rw [HNX.out, if_neg h, List.append_nil]
          clear HNX hq hu
          clear HLV HLL HL0
          generalize x k = xk at *
          have HOV : Hid (∀ (v' : Value), v' = Value.slice ad (lv k).length cp → lv (k + 1) = lv k → wr.ownsRow w.heap.size 3 1 v' (lv (k + 1)).length (cellL (natL (lv (k + 1))))) := fun v' hv he => by rw [hv, he]; exact HO.out
          have HLLE : Hid ((lv k).length = (lv k).length) := rfl
          clear HO
          generalize hLC : cellL (natL (lv k)) = LC at *
          clear hLC
          generalize (lv k).length = ll at *
          rcases Nat.lt_or_ge k n with h3 | h3
          · have h3I : (k : Int) < (n : Int) := by omega
            have hc := HRW.out wr HB.out k h3
            rw [HXK.out.1 h3] at hc
            go_wp2_with fail
            refine HSW.out.mono ?_
            rintro e w4 ⟨rfl, hw4⟩
            rw [hw4]
            clear hw4
            by_cases hu1 : u = 1
            · subst hu1
              go_wp2_with (at_builtin; go_must (refine wpList_append_lies _ rfl _ _ _ rfl w.heap.size 3 i0 _ 1 8 Tryd.underlying22 HINF.out.1 HINF.out.2.1 HINF.out.2.2.1 HINF.out.2.2.2 rfl (by omega) (.slice ad ll cp) _ _ rfl HOA.out ⟨wr.heap.size, 0, none⟩ 1 1 [.int .i64 (k : Int)] rfl rfl (one_new _ _ _) (by simp [Value.oneCell']) (by omega) (by unfold maxLen; omega) (by omega) (by simp; omega) _ rfl ?_; intro g' cap2 w3 hown3 hgrow3 hat3 hlt3; obtain ⟨hx1, hx2⟩ := HPU.out w3 g' cap2 hgrow3 hown3 (by trivial); have HX1 := Hid.mk' hx1; have HX2 := Hid.mk' hx2; clear hown3 hgrow3 hat3 hx1 hx2))
              exact ⟨⟨k + 1, h2, by go_num, HX1.out, HX2.out⟩, by simp [intOf] <;> omega⟩
            · have hub : ((u : Int) == 1) = false := by rw [beq_eq_false_iff_ne]; omega
              have HX1 := Hid.mk' (HOV.out _ rfl (HNO.out hu1))
              clear hu1
              go_wp2_with fail
              exact ⟨⟨k + 1, h2, by go_num, HX1.out, HB.out⟩, by simp [intOf] <;> omega⟩
          · obtain rfl : k = n := by omega
            have h3I : ¬ ((k : Int) < (k : Int)) := by omega
            have hxk := HXK.out.2 rfl
            have hxkI : (P : Int) - (S : Int) = (xk : Int) := by omega
            clear hxk
            go_wp2_with fail
            refine HSW.out.mono ?_
            rintro e w4 ⟨rfl, hw4⟩
            rw [hw4]
            clear hw4
            by_cases hu1 : u = 1
            · subst hu1
              go_wp2_with (at_builtin; go_must (refine wpList_append_lies _ rfl _ _ _ rfl w.heap.size 3 i0 _ 1 8 Tryd.underlying22 HINF.out.1 HINF.out.2.1 HINF.out.2.2.1 HINF.out.2.2.2 rfl (by omega) (.slice ad ll cp) _ _ rfl HOA.out ⟨wr.heap.size, 0, none⟩ 1 1 [.int .i64 (k : Int)] rfl rfl (one_new _ _ _) (by simp [Value.oneCell']) (by omega) (by unfold maxLen; omega) (by omega) (by simp; omega) _ rfl ?_; intro g' cap2 w3 hown3 hgrow3 hat3 hlt3; obtain ⟨hx1, hx2⟩ := HPU.out w3 g' cap2 hgrow3 hown3 (by trivial); have HX1 := Hid.mk' hx1; have HX2 := Hid.mk' hx2; clear hown3 hgrow3 hat3 hx1 hx2))
              exact ⟨⟨k + 1, h2, by go_num, HX1.out, HX2.out⟩, by simp [intOf] <;> omega⟩
            · have hub : ((u : Int) == 1) = false := by rw [beq_eq_false_iff_ne]; omega
              have HX1 := Hid.mk' (HOV.out _ rfl (HNO.out hu1))
              clear hu1
              go_wp2_with fail
              exact ⟨⟨k + 1, h2, by go_num, HX1.out, HB.out⟩, by simp [intOf] <;> omega⟩
        · obtain rfl : k = n + 1 := by omega
          have hkI : ¬ ((n : Int) + 1 ≤ (n : Int)) := by omega
          have HF := Hid.mk' (statesAt_row HO.out)
          clear HO
          go_wp2_with fail
          go_ret
          exact ⟨_, rfl, by rw [← HLVE.out]; exact HF.out, HB.out⟩
end Go.Proofs.YtobmngkaoahmiaaDoor
