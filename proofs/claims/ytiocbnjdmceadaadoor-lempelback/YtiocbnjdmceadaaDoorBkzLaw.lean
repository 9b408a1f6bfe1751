/- The law LempelBack. -/
import Derived.Test.YtiocbnjdmceadaaDoorEqP
namespace Go.Proofs.YtiocbnjdmceadaaDoor
open Go.RowKit

set_option maxRecDepth 100000 in
theorem Slide_no (a : Nat → Addr) (T : ByteArray) (x : Int) (w : World) (hE : Errs w a) (hT : T.size ≤ 600) (h : x < 1 ∨ 4000 < x) :
    Calls Tryd.prog 16 #[.string T, .int .i64 x] w fun e w' => e = .returned (.tuple #[.slice none 0 0, errV a 2]) ∧ Below w.heap.size w w' := by
  have e1 := hE.c1
  rw [errV_two]
  clear hE
  have h1I : ¬ (4000 : Int) < (T.size : Int) := by omega
  by_cases h2 : x < 1
  · go_enter Tryd.func16, Tryd.ntmps16
    go_wp2_with fail
    go_quiet (fail)
    go_wp2_with fail
    go_ret2
    exact ⟨rfl, below_drewN (Below.refl _ _) _⟩
  · have h3 : 4000 < x := by omega
    go_enter Tryd.func16, Tryd.ntmps16
    go_wp2_with fail
    go_quiet (fail)
    go_wp2_with fail
    go_ret2
    exact ⟨rfl, below_drewN (Below.refl _ _) _⟩

set_option maxRecDepth 100000 in
set_option maxHeartbeats 8000000 in
theorem LempelBack_all (a : Nat → Addr) (T : ByteArray) (x : Int) (w : World) (hE : Errs w a) (hT : T.size ≤ maxLen) :
    Calls Tryd.prog 6 #[.string T, .int .i64 x] w fun e w' => e = .returned (.bool true) ∧ Below w.heap.size w w' := by
  have hA := abab_any w
  unfold maxLen at hT
  by_cases h6 : 600 < T.size
  · have h6I : (600 : Int) < (T.size : Int) := by omega
    clear hE
    go_enter Tryd.func6, Tryd.ntmps6
    go_wp2_with fail
    refine hA.mono ?_
    rintro e w1 ⟨rfl, hb1⟩
    have HB1 := Hid.mk' hb1
    clear hb1 hA
    go_wp2_with fail
    go_ret
    exact ⟨rfl, HB1.out⟩
  · have h6I : ¬ (600 : Int) < (T.size : Int) := by omega
    have hs : T.size ≤ 600 := by omega
    have hsz : T.data.toList.length ≤ 600 := by rw [size_lst]; exact hs
    obtain ⟨p1, p2⟩ := parsed_ok T.data.toList hsz
    have HAP := Hid.mk' (parsed_apart T.data.toList)
    have hTT : (⟨T.data.toList.toArray⟩ : ByteArray) = T := (ba_same rfl).symm
    have HPA : Hid (∀ W, Calls Tryd.prog 9 #[.string T] W fun e w' => ∃ v, e = .returned (.tuple #[v, .nilIface]) ∧ PhiAt w' v ((pzL T.data.toList).map ofP) ∧ Below W.heap.size W w') := fun W => (Parse_ok T W (by omega)).mono fun e w' ⟨v, he, hr, hb⟩ => ⟨v, he, phiAt_pz hr, hb⟩
    have HTX : Hid (∀ W v, Below w.heap.size w W → PhiAt W v ((pzL T.data.toList).map ofP) → Calls Tryd.prog 13 #[v] W fun e w' => e = .returned (.tuple #[.string T, .nilIface]) ∧ Below W.heap.size W w') := fun W v hb hv => (Text_any a v _ W (hE.below hb) hv (by rw [List.length_map]; have := pzL_short T.data.toList; omega)).mono fun e w' ⟨s, y, he, hy, h1, _, hb2⟩ => by
      obtain rfl := hy.nil0 p1
      obtain rfl := h1 p1
      rw [p2, hTT] at he
      exact ⟨he, hb2⟩
    have HSN : Hid (∀ W, Below w.heap.size w W → (x < 1 ∨ 4000 < x) → Calls Tryd.prog 16 #[.string T, .int .i64 x] W fun e w' => e = .returned (.tuple #[.slice none 0 0, errV a 2]) ∧ Below W.heap.size W w') := fun W hb hx => Slide_no a T x W (hE.below hb) hs hx
    have HSO : Hid (∀ W (win : Nat), 1 ≤ win → win ≤ 4000 → Calls Tryd.prog 16 #[.string T, .int .i64 (win : Int)] W fun e w' => ∃ v, e = .returned (.tuple #[v, .nilIface]) ∧ CpiAt w' v ((slL T.data.toList win (T.data.toList.length + 1) 0).map ofC) ∧ Below W.heap.size W w') := fun W win h1 h2 => (Slide_ok T win W (by omega) h1 h2).mono fun e w' ⟨v, he, hr, hb⟩ => ⟨v, he, by rw [size_lst]; exact cpiAt_sl hr, hb⟩
    have HUN : Hid (∀ W v (win : Nat), Below w.heap.size w W → CpiAt W v ((slL T.data.toList win (T.data.toList.length + 1) 0).map ofC) → Calls Tryd.prog 18 #[v] W fun e w' => e = .returned (.tuple #[.string T, .nilIface]) ∧ Below W.heap.size W w') := fun W v win hb hv => by
      obtain ⟨s1, s2⟩ := slid_ok T.data.toList win hsz
      have := Unslide_ok a v _ W (hE.below hb) hv s1
      rw [s2, hTT] at this
      exact this
    have HPL : Hid (((pzL T.data.toList).map ofP).length ≤ 1000000) := by
      show _ ≤ _
      rw [List.length_map]; have := pzL_short T.data.toList; omega
    have HGP : Hid (∀ (i : Nat) (c : PhI), ((pzL T.data.toList).map ofP)[i]? = some c → ∃ p, (pzL T.data.toList)[i]? = some p ∧ c.of = (p.of : Int) ∧ (c.next.toNat : Int) = (p.next : Int) ∧ c.last = p.last) := fun i c hc => by
      rw [List.getElem?_map] at hc
      obtain ⟨d, hd, rfl⟩ := Option.map_eq_some_iff.1 hc
      exact ⟨d, hd, rfl, by show (((UInt8.ofNat d.next).toNat : Nat) : Int) = _; rw [u8_back (pzL_next _ d (List.mem_of_getElem? hd))], rfl⟩
    clear hE p1 p2 hTT
    generalize hlP : (pzL T.data.toList).map ofP = lp at *
    generalize pzL T.data.toList = l0 at *
    clear hlP
    go_enter Tryd.func6, Tryd.ntmps6
    go_wp2_with fail
    refine hA.mono ?_
    rintro e w1 ⟨rfl, hb1⟩
    have HB1 := Hid.mk' hb1
    clear hb1 hA
    go_wp2_with fail
    refine (HPA.out w1).mono ?_
    rintro e w2 ⟨v, rfl, hv2, hb2⟩
    have HB2 := Hid.mk' (below_chain HB1.out hb2)
    have HV2 := Hid.mk' hv2
    obtain ⟨ad, cap, rfl⟩ := hv2.form
    clear hb2 hv2
    go_wp2_with fail
    refine (HTX.out w2 _ HB2.out HV2.out).mono ?_
    rintro e w3 ⟨rfl, hb3⟩
    have HB3 := Hid.mk' (below_chain HB2.out hb3)
    have HV3 := Hid.mk' (HV2.out.later hb3)
    clear hb3
    have hpl := HPL.out
    go_wp2_with fail
    go_loopw [9] (fun t wr => ∃ k m : Nat, k ≤ lp.length ∧ t = .int .i64 (k : Int) ∧ Hid (wr = w3.drewN m)) (fun t _ => lp.length - (intOf t).toNat)
    case atStart => exact ⟨0, 0, Nat.zero_le _, rfl, rfl⟩
    case round =>
      obtain ⟨k, m, hk, rfl, HWR⟩ := hrel
      rcases Nat.lt_or_ge k lp.length with h1 | h1
      · have hkI : (k : Int) < (lp.length : Int) := by omega
        have hk0 : (0 : Int) ≤ (k : Int) := by omega
        obtain ⟨c, hc⟩ : ∃ c, lp[k]? = some c := ⟨_, List.getElem?_eq_getElem h1⟩
        obtain ⟨b, o, rfl, _⟩ := HV3.out.at hc
        go_wp2_with fail
        go_loopw [10] (fun t wr => ∃ j m : Nat, j ≤ k ∧ t = .int .i64 (j : Int) ∧ Hid (wr = w3.drewN m)) (fun t _ => k - (intOf t).toNat)
        case atStart => exact ⟨0, m, Nat.zero_le _, rfl, HWR.out⟩
        case round =>
          clear HWR
          obtain ⟨j, m, hj, rfl, HWR⟩ := hrel
          rcases Nat.lt_or_ge j k with h2 | h2
          · have hjI : (j : Int) < (k : Int) := by omega
            have hj0 : (0 : Int) ≤ (j : Int) := by omega
            have hjl : (j : Int) < (lp.length : Int) := by omega
            obtain ⟨d, hd⟩ : ∃ d, lp[j]? = some d := ⟨_, List.getElem?_eq_getElem (by omega)⟩
            obtain ⟨b1, o1, e1, x0, x1, x2⟩ := HV3.out.at hc
            obtain ⟨b2, o2, e2, z0, z1, z2⟩ := HV3.out.at hd
            obtain ⟨rfl, rfl⟩ : b = b1 ∧ o = o1 := by simpa using e1
            obtain ⟨rfl, rfl⟩ : b = b2 ∧ o = o2 := by simpa using e2
            have y0 : wr.cell? ⟨b, o + k * 3, none⟩ = some (.int .i64 c.of) := by rw [HWR.out]; exact x0
            have y1 : wr.cell? ⟨b, o + k * 3 + 1, none⟩ = some (.int .u8 (c.next.toNat : Int)) := by rw [HWR.out]; exact x1
            have y2 : wr.cell? ⟨b, o + k * 3 + 2, none⟩ = some (.bool c.last) := by rw [HWR.out]; exact x2
            have u0 : wr.cell? ⟨b, o + j * 3, none⟩ = some (.int .i64 d.of) := by rw [HWR.out]; exact z0
            have u1 : wr.cell? ⟨b, o + j * 3 + 1, none⟩ = some (.int .u8 (d.next.toNat : Int)) := by rw [HWR.out]; exact z1
            have u2 : wr.cell? ⟨b, o + j * 3 + 2, none⟩ = some (.bool d.last) := by rw [HWR.out]; exact z2
            obtain ⟨p, hp, pa, pb, pc⟩ := HGP.out k c hc
            obtain ⟨q, hq, qa, qb, qc⟩ := HGP.out j d hd
            have HNE : Hid (¬ (c.of = d.of ∧ (c.next.toNat : Int) = (d.next.toNat : Int) ∧ c.last = d.last)) := fun ⟨a1, a2, a3⟩ => HAP.out k j p q h2 hp hq ⟨by omega, by omega, by rw [← pc, ← qc]; exact a3⟩
            clear x0 x1 x2 z0 z1 z2 e1 e2 hp hq pa pb pc qa qb qc hd
            obtain ⟨co, cn, cl⟩ := c
            obtain ⟨fo, fn, fl⟩ := d
            simp only at y0 y1 y2 u0 u1 u2 HNE
            have hq := fun (W : World) => phr_unlike co fo (cn.toNat : Int) (fn.toNat : Int) cl fl HNE.out W
            go_wp2_with fail
            go_quiet (fail)
            go_wp2_with fail
            exact ⟨⟨j + 1, _, h2, by go_num, by show _ = _; rw [HWR.out, World.drewN_drewN]⟩, by simp [intOf]; omega⟩
          · obtain rfl : j = k := by omega
            have hjI : ¬ (j : Int) < (j : Int) := by omega
            go_wp2_with fail
            exact ⟨⟨j + 1, m, h1, by go_num, HWR.out⟩, by simp [intOf]; omega⟩
      · obtain rfl : k = lp.length := by omega
        have hkI : ¬ (lp.length : Int) < (lp.length : Int) := by omega
        have HB4 : Hid (Below w.heap.size w wr) := by rw [HWR.out]; exact below_drewN HB3.out _
        by_cases hx : x < 1 ∨ 4000 < x
        · have HSX := Hid.mk' (fun W hb => HSN.out W hb hx)
          have hxd : x < 1 ∨ (¬ x < 1 ∧ 4000 < x) := by omega
          rw [errV_two] at HSX
          go_wp2_with fail
          refine (HSX.out wr HB4.out).mono ?_
          rintro e w5 ⟨rfl, hb5⟩
          have HB5 := Hid.mk' (below_chain HB4.out hb5)
          clear hb5
          rcases hxd with hxd | ⟨hxd, hxe⟩
          · go_wp2_with fail
            go_ret
            exact ⟨rfl, HB5.out⟩
          · go_wp2_with fail
            go_ret
            exact ⟨rfl, HB5.out⟩
        · obtain ⟨win, rfl⟩ : ∃ n : Nat, x = (n : Int) := ⟨x.toNat, by omega⟩
          have HS8 := Hid.mk' (HSO.out wr win (by omega) (by omega))
          have HU8 := Hid.mk' (fun W v => HUN.out W v win)
          clear HSO HUN HSN hx
          generalize (slL T.data.toList win (T.data.toList.length + 1) 0).map ofC = lc at *
          go_wp2_with fail
          refine HS8.out.mono ?_
          rintro e w5 ⟨v5, rfl, hv5, hb5⟩
          have HB5 := Hid.mk' (below_chain HB4.out hb5)
          have HV5 := Hid.mk' hv5
          obtain ⟨ad5, cap5, rfl⟩ := hv5.form
          clear hb5 hv5
          go_wp2_with fail
          refine (HU8.out w5 _ HB5.out HV5.out).mono ?_
          rintro e w6 ⟨rfl, hb6⟩
          have HB6 := Hid.mk' (below_chain HB5.out hb6)
          clear hb6
          go_wp2_with fail
          go_ret
          exact ⟨rfl, HB6.out⟩
end Go.Proofs.YtiocbnjdmceadaaDoor
