/- The document's chances of what goes in and comes out. -/
import Derived.Test.YtphecjjblnnjdaaGreatDoorCnRt
import Derived.Test.YtphecjjblnnjdaaGreatDoorCnTab
namespace Go.Proofs.YtphecjjblnnjdaaGreatDoor
open Go.RowKit

theorem Tryz.infoRt : (Tryz.prog.info? 54).map (fun i => (i.zero, i.size, i.bytes)) = some (some (.agg #[.bool false, .slice none 0 0, .slice none 0 0]), 3, 56) := by kernel_rfl
theorem three_newR (w : World) (x0 x1 x2 : Value) (t : TypeId) (j : Nat) (u : Value) (h : [x0, x1, x2][j]? = some u) : (w.alloc (.cells #[x0, x1, x2] t)).cell? ((⟨w.heap.size, 0, none⟩ : Addr).add j) = some u := by
  rw [add_plain, World.cell?_alloc_at _ _ _ _ rfl, Nat.zero_add]
  rcases j with _ | _ | _ | j
  · simpa using h
  · simpa using h
  · simpa using h
  · simp at h
theorem tdiv_nat (a g : Nat) : ((a : Nat) : Int).tdiv (g : Int) = ((a / g : Nat) : Int) := by rw [Int.tdiv_eq_ediv_of_nonneg (by omega)]; simp
/-- RatioOf of a number from 0 on. -/
theorem RatioOf_lowP (a b : Nat) (w : World) (ha : a ≤ 4611686018427387904) (hb0 : 0 < b) (hb : b ≤ 4611686018427387904) :
    Calls Tryz.prog 20 #[.int .i64 (a : Int), .int .i64 (b : Int)] w fun e w' => ∃ r, e = .returned r ∧ RatioAt w' r ((lowP a b).1 : Int) (lowP a b).2 ∧ Below w.heap.size w w' := by
  refine (RatioOf_any (a : Int) b w (by omega) (by omega) hb0 hb).mono ?_
  rintro e w' ⟨r, rfl, hr, hbw⟩
  rw [Int.natAbs_natCast, tdiv_nat] at hr
  exact ⟨r, rfl, hr, hbw⟩
theorem lowP_le (a b : Nat) : (lowP a b).1 ≤ a ∧ (lowP a b).2 ≤ b := ⟨Nat.div_le_self _ _, Nat.div_le_self _ _⟩
/-- Times of two such, told in its parts. -/
theorem Times_low2 (v1 v2 : Value) (a b c d : Nat) (w : World) (h1 : RatioAt w v1 ((lowP a b).1 : Int) (lowP a b).2) (h2 : RatioAt w v2 ((lowP c d).1 : Int) (lowP c d).2) (hb : 0 < b) (hd : 0 < d) (ha4 : a ≤ 1000000000) (hb4 : b ≤ 1000000000) (hc4 : c ≤ 1000000000) (hd4 : d ≤ 1000000000) :
    Calls Tryz.prog 56 #[v1, v2] w fun e w' => ∃ u q, e = .returned (.agg #[.bool false, u, q]) ∧ BigAt w' u (lowP (a * c) (b * d)).1 ∧ BigAt w' q (lowP (a * c) (b * d)).2 ∧ Below w.heap.size w w' := by
  have l1 := lowP_le a b
  have l2 := lowP_le c d
  have hp : (1000000000 : Nat) < 1000000 ^ 2 := by decide
  refine (Times_ratio v1 v2 _ _ _ _ 2 w h1 h2 (lowP_low hb).1 (lowP_low hd).1 (by rw [Int.natAbs_natCast]; omega) (by rw [Int.natAbs_natCast]; omega) (by omega) (by omega) (by omega)).mono ?_
  rintro e w' ⟨r, rfl, ⟨u, q, rfl, hu, hq⟩, hbw⟩
  have e1 : (((lowP a b).1 : Int) * ((lowP c d).1 : Int)) = (((lowP a b).1 * (lowP c d).1 : Nat) : Int) := by simp
  rw [e1, Int.natAbs_natCast, tdiv_nat] at hu
  rw [e1, Int.natAbs_natCast] at hq
  rw [Int.natAbs_natCast] at hu
  have hlt := lowP_times (a := a) (c := c) hb hd
  have hu2 : BigAt w' u (lowP ((lowP a b).1 * (lowP c d).1) ((lowP a b).2 * (lowP c d).2)).1 := hu
  have hq2 : BigAt w' q (lowP ((lowP a b).1 * (lowP c d).1) ((lowP a b).2 * (lowP c d).2)).2 := hq
  rw [hlt] at hu2 hq2
  refine ⟨u, q, ?_, hu2, hq2, hbw⟩
  rw [e1, Int.natAbs_natCast, tdiv_nat, decide_eq_false (Int.not_lt.mpr (Int.natCast_nonneg _))]

set_option maxRecDepth 100000 in
set_option maxHeartbeats 8000000 in
theorem Chances_any (u : Value) (n : Nat) (z : Nat → Int) (v : Value) (R : Nat) (vs : Nat → Value) (ns : Nat → Nat) (zs : Nat → Nat → Int) (w : World) (hu : NumsAt w u n z) (h : TabAt w v R vs ns zs) (he : inErr n z R ns zs = 0) :
    Calls Tryz.prog 34 #[u, v] w fun e w' => ∃ v', e = .returned v' ∧ RtAt w' v' (flatF (ns 0) (inF n z (ns 0) zs) R) ∧ Below w.heap.size w w' := by
  obtain ⟨hok, hev⟩ := inOk_of he
  obtain rfl := hok.nR
  have HOK := Hid.mk' hok
  obtain ⟨pb, po, cap, rfl, hp⟩ : ∃ pb po cap, u = .slice (some ⟨pb, po, none⟩) n cap ∧ RowAt w pb po n z := by
    rcases hu with ⟨_, _, _, h1⟩ | ⟨pb, po, cap, h1, _, h2⟩
    · have := hok.n0; omega
    · exact ⟨pb, po, cap, h1, h2⟩
  obtain ⟨b, o, cap', rfl, hr⟩ : ∃ b o cap', v = .slice (some ⟨b, o, none⟩) n cap' ∧ ∀ i, i < n → ∃ rb ro rc, w.cell? ⟨b, o + i, none⟩ = some (.slice (some ⟨rb, ro, none⟩) (ns 0) rc) ∧ RowAt w rb ro (ns 0) (zs i) := by
    rcases h with ⟨_, _, _, h1⟩ | ⟨b, o, cap', h1, _, h2⟩
    · have := hok.n0; omega
    · refine ⟨b, o, cap', h1, fun i hi => ?_⟩
      obtain ⟨h3, h4⟩ := h2 i hi
      rw [hev i hi] at h4
      rcases h4 with ⟨_, _, _, h5⟩ | ⟨rb, ro, rc, h5, _, h6⟩
      · have := hok.c0; omega
      · exact ⟨rb, ro, rc, by rw [h3, h5], h6⟩
  obtain ⟨i0, hi, hz0, hz1, hz2⟩ := info_parts Tryz.infoRt
  have HINF : Hid (Tryz.prog.info? 54 = some i0 ∧ i0.zero = some (.agg #[.bool false, .slice none 0 0, .slice none 0 0]) ∧ i0.size = 3 ∧ i0.bytes = 56) := ⟨hi, hz0, hz1, hz2⟩
  have HZN : Hid (∀ u, u ∈ (Value.agg #[.bool false, .slice none 0 0, .slice none 0 0]).cells.toList → notI u) := fun u hu x e => by
    subst e
    simp [Value.cells] at hu
  clear hi hz0 hz1 hz2
  have HP : Hid (∀ W, Below w.heap.size w W → RowAt W pb po n z) := fun W hb => hp.later hb
  have HR : Hid (∀ i, i < n → ∃ rb ro rc, ∀ W, Below w.heap.size w W → W.cell? ⟨b, o + i, none⟩ = some (.slice (some ⟨rb, ro, none⟩) (ns 0) rc) ∧ RowAt W rb ro (ns 0) (zs i)) := fun i hi => by
    obtain ⟨rb, ro, rc, h1, h2⟩ := hr i hi
    exact ⟨rb, ro, rc, fun W hb => ⟨by rw [hb.cell (cell_lt h1)]; exact h1, h2.later hb⟩⟩
  have h16 := hok.n16
  have h0 := hok.n0
  have hC16 := hok.c16
  have hC0 := hok.c0
  have HSP : Hid (∀ W, Below w.heap.size w W → Calls Tryz.prog 37 #[.slice (some ⟨pb, po, none⟩) n cap] W fun e w' => e = .returned (.int .i64 ((sumN z n).toNat : Int)) ∧ w' = W) := fun W hb => by
    refine (Sum_some pb po cap n z W (hp.later hb) (fun m hm => by have := hok.okp.part hm; omega) (fun m hm => by have := hok.okp.lt hm; omega) (by omega)).mono ?_
    rintro e w1 ⟨rfl, rfl⟩
    exact ⟨by have := hok.okp.pos; congr 2; omega, rfl⟩
  have hS : (sumN z n).toNat ≤ 4096 ∧ 0 < (sumN z n).toNat := ⟨by have := hok.okp.le; omega, by have := hok.okp.pos; omega⟩
  obtain ⟨fF, hfF⟩ : ∃ fF, fF = inF n z (ns 0) zs := ⟨_, rfl⟩
  rw [← hfF]
  have HFF := Hid.mk' hfF
  clear hu h he hok hev hp hr hfF
  generalize ns 0 = C at *
  generalize hSe : (sumN z n).toNat = S at *
  have HSE := Hid.mk' hSe
  clear hSe
  go_enter Tryz.func34, Tryz.ntmps34
  go_wp2_with fail
  go_loopw [5, 6] (fun s t wr => ∃ (i : Nat) (cs : List (Value × Value)), i ≤ n ∧ t = .int .i64 i ∧ Hid (RtOwn w.heap.size wr s (flatF C fF i) cs) ∧ Hid (Below w.heap.size w wr)) (fun _ t _ => n - (intOf t).toNat)
  case atStart => exact ⟨0, [], Nat.zero_le _, rfl, rtOwn_nil _ _, Below.refl _ _⟩
  case round =>
    obtain ⟨i, cs, hi, rfl, HO, HB⟩ := hrel
    rcases Nat.lt_or_ge i n with h1 | h1
    · have hiI : (i : Int) < (n : Int) := by omega
      have hi0 : (0 : Int) ≤ (i : Int) := by omega
      obtain ⟨kb, ko, kc, hrow⟩ := HR.out i h1
      have HROW := Hid.mk' hrow
      have hokc := HOK.out.okc i h1
      have hT : (sumN (zs i) C).toNat ≤ 256 ∧ 0 < (sumN (zs i) C).toNat := ⟨by have := HOK.out.le i h1; omega, by have := hokc.pos; omega⟩
      have hpz := HOK.out.okp.lt h1
      have HTR : Hid (∀ W, Below w.heap.size w W → Calls Tryz.prog 37 #[.slice (some ⟨kb, ko, none⟩) C kc] W fun e w' => e = .returned (.int .i64 ((sumN (zs i) C).toNat : Int)) ∧ w' = W) := fun W hb => by
        refine (Sum_some kb ko kc C (zs i) W (hrow W hb).2 (fun m hm => by have := hokc.part hm; omega) (fun m hm => by have := hokc.lt hm; omega) (by omega)).mono ?_
        rintro e w1 ⟨rfl, rfl⟩
        exact ⟨by have := hokc.pos; congr 2; omega, rfl⟩
      have HPC : Hid (∀ W, Below w.heap.size w W → W.cell? ⟨pb, po + i, none⟩ = some (.int .i64 ((z i).toNat : Int))) := fun W hb => by rw [HP.out W hb i h1]; congr 2; omega
      have hpn : (z i).toNat ≤ 4096 := by omega
      have HFI : Hid (∀ k, fF i k = lowP ((z i).toNat * (zs i k).toNat) (S * (sumN (zs i) C).toNat)) := fun k => by rw [HFF.out, ← HSE.out, Nat.mul_comm]; rfl
      have HCK : Hid (∀ k, k < C → (zs i k).toNat ≤ 256 ∧ ((zs i k).toNat : Int) = zs i k) := fun k hk => ⟨(HOK.out.bounds h1 hk).2.1, by have := (hokc.lt hk).1; omega⟩
      clear hokc hrow hpz
      generalize (sumN (zs i) C).toNat = T at *
      generalize (z i).toNat = p at *
      have hcO := (HROW.out wr HB.out).1
      go_wp2_with fail
      obtain ⟨wo, hwo⟩ : ∃ wo, wo = wr := ⟨_, rfl⟩
      have HOo : Hid (RtOwn w.heap.size wr u5 (flatF C fF i ++ (List.range 0).map (fF i)) cs) := by simpa using HO
      clear hcO hwo
      go_loopw [5, 7] (fun s t wr => ∃ (k : Nat) (cs : List (Value × Value)), k ≤ C ∧ t = .int .i64 k ∧ Hid (RtOwn w.heap.size wr s (flatF C fF i ++ (List.range k).map (fF i)) cs) ∧ Hid (Below w.heap.size w wr)) (fun _ t _ => C - (intOf t).toNat)
      case atStart => exact ⟨0, cs, Nat.zero_le _, rfl, HOo, HB⟩
      case round =>
        clear HO HOo HB
        obtain ⟨k, cs', hk, rfl, HO, HB⟩ := hrel
        obtain ⟨hcw, hrw⟩ := HROW.out wr HB.out
        rcases Nat.lt_or_ge k C with h2 | h2
        · have hkI : (k : Int) < (C : Int) := by omega
          have hk0 : (0 : Int) ≤ (k : Int) := by omega
          obtain ⟨hck, hcz⟩ := HCK.out k h2
          have HKS : Hid (∀ W, Below w.heap.size w W → W.cell? ⟨pb, po + i, none⟩ = some (.int .i64 (p : Int)) ∧ W.cell? ⟨b, o + i, none⟩ = some (.slice (some ⟨kb, ko, none⟩) C kc) ∧ W.cell? ⟨kb, ko + k, none⟩ = some (.int .i64 ((zs i k).toNat : Int))) := fun W hb => ⟨HPC.out W hb, (HROW.out W hb).1, by rw [(HROW.out W hb).2 k h2, hcz]⟩
          have hpc := HPC.out wr HB.out
          have hcc : wr.cell? ⟨kb, ko + k, none⟩ = some (.int .i64 ((zs i k).toNat : Int)) := by rw [hrw k h2, hcz]
          have HFE := Hid.mk' (HFI.out k)
          have HLE : Hid ((flatF C fF i ++ (List.range k).map (fF i)).length ≤ 1000) := by
            show _ ≤ _
            have h5 : i * C ≤ 16 * 16 := Nat.mul_le_mul (by omega) hC16
            rw [List.length_append, flatF_length]; simp; omega
          have HSN : Hid (flatF C fF i ++ (List.range (k + 1)).map (fF i) = (flatF C fF i ++ (List.range k).map (fF i)) ++ [fF i k]) := by show _ = _; rw [List.range_succ]; simp
          have hcur : Below w.heap.size w wr.drew := HB.out.drew
          have hcur0 : Below w.heap.size w wr := HB.out
          clear hrw hcz
          generalize (zs i k).toNat = c at *
          generalize hfk : fF i k = fk at *
          generalize hll : flatF C fF i ++ (List.range k).map (fF i) = ll at *
          clear hfk hll
          go_wp2_with fail
          go_region_held3 (fun W => W.cell? ⟨pb, po + i, none⟩ = some (.int .i64 (p : Int)) ∧ W.cell? ⟨b, o + i, none⟩ = some (.slice (some ⟨kb, ko, none⟩) C kc) ∧ W.cell? ⟨kb, ko + k, none⟩ = some (.int .i64 (c : Int)))
            (first | exact HKS.out _ hcur0 | exact HKS.out _ hcur | exact HKS.out _ hbw1 | exact HKS.out _ hbw2 | exact HKS.out _ hbw3 | exact HKS.out _ hbw4 | exact HKS.out _ hbw5)
            (first
              | (go_at_call 56; have hq := hbw2; clear hq; refine (Times_low2 _ _ p S c T _ (HX1.out.later hb2') HX2.out hS.2 hT.2 (by omega) (by omega) (by omega) (by omega)).mono ?_; rintro e w3 ⟨ru, rq, rfl, hru, hrq, hb3⟩; rw [← HFE.out] at hru hrq; obtain ⟨au, lu, cu, rfl, _⟩ := hru.len; obtain ⟨aq, lq, cq, rfl, _⟩ := hrq.len; have hbw3 := below_chain hbw2 hb3; have hal : Below w3.heap.size w3 (w3.alloc (.cells #[.bool false, .slice au lu cu, .slice aq lq cq] 54)) := (Below.refl _ _).alloc (Nat.le_refl _) _; have HU4 := Hid.mk' (hru.later hal); have HQ4 := Hid.mk' (hrq.later hal); have HO4 := Hid.mk' ((((HO.out.later hbd').later hb1').later hb2').later (below_chain hb3 hal)); have hbw4 := below_chain hbw3 hal; clear hru hrq hb3 hal)
              | (go_at_call_of 20 (Value.int .i64 (c : Int)); have hq := hbw1; clear hq; refine (RatioOf_lowP c T _ (by omega) hT.2 (by omega)).mono ?_; rintro e w2 ⟨r2, rfl, hr2, hb2'⟩; have hbw2 := below_chain hbw1 hb2'; have HX2 := Hid.mk' hr2; clear hr2)
              | (go_at_call_of 37 (Value.slice (some ⟨kb, ko, none⟩) C kc); refine (HTR.out _ hbw1).mono ?_; rintro e w9 ⟨rfl, hw9⟩; rw [hw9]; clear hw9)
              | (go_at_call_of 20 (Value.int .i64 (p : Int)); refine (RatioOf_lowP p S _ (by omega) hS.2 (by omega)).mono ?_; rintro e w1 ⟨r1, rfl, hr1, hb1'⟩; have hbw1 := below_chain hcur hb1'; have hbd' : Below wr.heap.size wr wr.drew := (Below.refl _ _).drew; have HX1 := Hid.mk' hr1; clear hr1)
              | (go_at_call_of 37 (Value.slice (some ⟨pb, po, none⟩) n cap); refine (HSP.out _ hcur).mono ?_; rintro e w9 ⟨rfl, hw9⟩; rw [hw9]; clear hw9)
              | (refine step_append_clean _ (by rfl) _ _ _ (by rfl) w.heap.size 54 i0 _ 3 56 Tryz.underlying46 HINF.out rfl (by omega) u5 _ _ (by rfl) (HO4.out.own) ⟨w3.heap.size, 0, none⟩ 1 1 [.bool false, .slice au lu cu, .slice aq lq cq] (by rfl) rfl (three_newR _ _ _ _ _) (by simp [Value.oneCell']) (by omega) (by have := HLE.out; omega) (by omega) hbw4.size HZN.out (by intro u hu x e; subst e; simp at hu) HO4.out.clean ?_; intro g' cap' w5 hown5 hgrow5 hclean5; have HO5 := Hid.mk' (HO4.out.push HU4.out HQ4.out rfl rfl hown5 hgrow5 hclean5); have hbw5 := below_grow hbw4 HO4.out.own hgrow5; clear hown5 hgrow5 hclean5))
          go_wp2_with fail
          rw [← HSN.out] at HO5
          exact ⟨⟨k + 1, _, h2, by go_num, HO5, hbw5⟩, by simp [intOf]; omega⟩
        · obtain rfl : k = C := by omega
          go_wp2_with fail
          exact ⟨⟨i + 1, cs', h1, by go_num, HO, HB⟩, by simp [intOf]; omega⟩
    · obtain rfl : n = i := by omega
      go_wp2_with fail
      go_ret
      exact ⟨_, rfl, HO.out.at, HB.out⟩
end Go.Proofs.YtphecjjblnnjdaaGreatDoor
