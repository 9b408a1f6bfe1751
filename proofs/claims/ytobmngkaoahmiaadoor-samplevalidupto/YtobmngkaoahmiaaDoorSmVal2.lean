/- Rules: the program's Valid. -/
import Derived.Test.YtobmngkaoahmiaaDoorSmVal
import Derived.Test.YtobmngkaoahmiaaDoorValidWalk
namespace Go.Proofs.YtobmngkaoahmiaaDoor
open Go.RowKit

theorem errV_7s (a : Nat → Addr) : errV a 7 = .iface 179 (.pointer (some (a 6))) := rfl
theorem errV_2v (a : Nat → Addr) : errV a 2 = .iface 179 (.pointer (some (a 1))) := rfl
theorem errV_3v (a : Nat → Addr) : errV a 3 = .iface 179 (.pointer (some (a 2))) := rfl
set_option maxRecDepth 100000 in
set_option maxHeartbeats 4000000 in
theorem rulesValid_any (a : Nat → Addr) (v : Value) (n : Nat) (vs : Nat → Value) (ns : Nat → Nat) (zs : Nat → Nat → Int) (w : World) (hE : Errs w a) (h : TabAt w v n vs ns zs) (hn : n ≤ 1000000) (hns : ∀ i, i < n → ns i ≤ 1000000) :
    Calls Tryd.prog 20 #[v] w fun e w' => e = .returned (errV a (rlE n ns zs)) ∧ Below w.heap.size w w' := by
  by_cases h8 : 16 < n
  · obtain ⟨ad, cap, rfl⟩ := h.form
    have cB := hE.c1
    have hI : (16 : Int) < (n : Int) := by omega
    rw [show rlE n ns zs = 2 by unfold rlE; rw [if_pos h8], errV_2v]
    clear h hE hns
    go_enter Tryd.func20, Tryd.ntmps20
    go_wp2_with fail
    go_ret
    exact ⟨rfl, Below.refl _ _⟩
  have hCF := ContainsFunc_rules v n vs ns zs w h (by omega) hns
  obtain ⟨ad, cap, rfl⟩ := h.form
  have HEE := Hid.mk' (fun (W : World) (hb : Below w.heap.size w W) => hE.below hb)
  have hI : decide ((16 : Int) < (n : Int)) = false := decide_eq_false (by omega)
  have hI3 : ¬ (16 : Int) < (n : Int) := by omega
  cases hlg : longB ns n with
  | true =>
    have cB := hE.c1
    rw [show rlE n ns zs = 2 by unfold rlE; rw [if_neg h8, if_pos hlg], errV_2v]
    rw [hlg] at hCF
    clear hlg h hE hns
    go_enter Tryd.func20, Tryd.ntmps20
    go_wp2_with fail
    refine hCF.mono ?_
    clear hCF
    rintro e w2 ⟨rfl, hw2⟩
    rw [hw2]
    clear hw2
    go_wp2_with fail
    go_ret
    exact ⟨rfl, Below.refl _ _⟩
  | false =>
  rw [hlg] at hCF
  rcases Nat.eq_zero_or_pos n with h0 | h0
  · subst h0
    have cS := hE.c2
    rw [show rlE 0 ns zs = 3 by unfold rlE; rw [if_neg h8, hlg, if_neg (by simp), if_pos rfl], errV_3v]
    clear hlg h hE hns
    go_enter Tryd.func20, Tryd.ntmps20
    go_wp2_with fail
    refine hCF.mono ?_
    clear hCF
    rintro e w2 ⟨rfl, hw2⟩
    rw [hw2]
    clear hw2
    go_wp2_with fail
    go_ret
    exact ⟨rfl, Below.refl _ _⟩
  have hz : ((n : Int) == 0) = false := by rw [beq_eq_false_iff_ne]; omega
  obtain ⟨b, o, rfl, hrows⟩ : ∃ b o, ad = some ⟨b, o, none⟩ ∧ ∀ i, i < n → w.cell? ⟨b, o + i, none⟩ = some (vs i) ∧ NumsAt w (vs i) (ns i) (zs i) := by
    rcases h with ⟨_, _, _, h1⟩ | ⟨b, o, c, h1, _, h2⟩
    · omega
    · simp only [Value.slice.injEq, true_and] at h1
      exact ⟨b, o, h1.1, h2⟩
  have HR := Hid.mk' (fun (W : World) (hb : Below w.heap.size w W) (i : Nat) (hi : i < n) => (show W.cell? ⟨b, o + i, none⟩ = some (vs i) ∧ NumsAt W (vs i) (ns i) (zs i) from ⟨by rw [hb.cell (cell_lt (hrows i hi).1)]; exact (hrows i hi).1, (hrows i hi).2.later hb⟩))
  have HLN := Hid.mk' (not_long hlg)
  obtain ⟨rad0, rcap0, hre0⟩ := (hrows 0 h0).2.form
  have HC0 : Hid (∀ W, Below w.heap.size w W → W.cell? ⟨b, o, none⟩ = some (.slice rad0 (ns 0) rcap0)) := fun W hb => by
    have := (HR.out W hb 0 h0).1
    rw [hre0, Nat.add_zero] at this
    exact this
  have hc0 := HC0.out w (Below.refl _ _)
  have hn0 := not_long hlg 0 h0
  have HNP : Hid (0 < n) := h0
  have hnI : (0 : Int) < (n : Int) := by omega
  by_cases hm : ns 0 = 0
  · have cS := hE.c2
    rw [show rlE n ns zs = 3 by unfold rlE; rw [if_neg h8, hlg, if_neg (by simp), if_neg (by omega), if_pos hm], errV_3v]
    rw [hm] at hc0
    clear hlg hE hns hrows hre0 HC0 HR HLN h
    go_enter Tryd.func20, Tryd.ntmps20
    go_wp2_with fail
    refine hCF.mono ?_
    clear hCF
    rintro e w2 ⟨rfl, hw2⟩
    rw [hw2]
    clear hw2
    go_wp2_with fail
    go_ret
    exact ⟨rfl, Below.refl _ _⟩
  have hmb : ((ns 0 : Int) == 0) = false := by rw [beq_eq_false_iff_ne]; omega
  have HM0 : Hid (0 < ns 0) := by show _ < _; omega
  have HE : Hid (rlE n ns zs = if rlBad n ns zs = true then 3 else if rlDn n ns zs = true then 7 else 0) := by show _ = _; unfold rlE; rw [if_neg h8, hlg, if_neg (by simp), if_neg (by omega), if_neg hm]
  have HBA : Hid (∀ k, k < n → ruB ns zs k = true → rlE n ns zs = 3) := fun k hk hb => by rw [HE.out, if_pos (show rlBad n ns zs = true from anyS_at hb hk)]
  have HBN : Hid (rlBad n ns zs = false → ∀ k, k < n → dwB ns zs k = true → rlE n ns zs = 7) := fun h1 k hk hb => by rw [HE.out, h1, if_neg (by simp), if_pos (show rlDn n ns zs = true from anyS_at hb hk)]
  have HBZ : Hid (rlBad n ns zs = false → rlDn n ns zs = false → rlE n ns zs = 0) := fun h1 h2 => by rw [HE.out, h1, if_neg (by simp), h2, if_neg (by simp)]
  have HRU : Hid (∀ k, k < n → ns k = ns 0 → ruB ns zs k = (decide (minTo (zs k) (ns 0 - 1) < 0) || decide ((ns 0 : Int) ≤ maxTo (zs k) (ns 0 - 1)))) := fun k hk he => by
    rw [ruB, he, rowBad_ends HM0.out]; simp
  have HRN : Hid (∀ k, ns k ≠ ns 0 → ruB ns zs k = true) := fun k he => by rw [ruB, decide_eq_true he]; rfl
  have HCX := Hid.mk' (fun (b' o' c' m : Nat) (y : Nat → Int) (W : World) (hh : RowAt W b' o' m y) (h1 : 0 < m) (h2 : m ≤ 1000000) => And.intro (Min_some b' o' c' m y W hh h1 h2) (Max_some b' o' c' m y W hh h1 h2))
  clear hlg hE hns hrows hre0 h hm HE
  obtain ⟨m, hmm⟩ : ∃ m, m = ns 0 := ⟨_, rfl⟩
  rw [← hmm] at hmb HM0 HRU HRN HC0 hc0 hn0
  have HMM := Hid.mk' hmm
  clear hmm
  go_enter Tryd.func20, Tryd.ntmps20
  go_wp2_with fail
  refine hCF.mono ?_
  clear hCF
  rintro e w2 ⟨rfl, hw2⟩
  rw [hw2]
  clear hw2
  go_wp2_with fail
  go_loopw [28] (fun t wr => ∃ k : Nat, k ≤ n ∧ t = .int .i64 k ∧ Hid (anyS (ruB ns zs) k = false) ∧ wr = w) (fun t _ => n - (intOf t).toNat)
  case atStart => exact ⟨0, Nat.zero_le _, rfl, rfl, rfl⟩
  case round =>
    obtain ⟨k, hk, rfl, HS, hwr⟩ := hrel
    rw [hwr]
    clear hwr
    have hk0 : (0 : Int) ≤ (k : Int) := by omega
    rcases Nat.lt_or_ge k n with h1 | h1
    · have hkI : (k : Int) < (n : Int) := by omega
      obtain ⟨hc, hnum⟩ := HR.out w (Below.refl _ _) k h1
      obtain ⟨rad, rcap, hre⟩ := hnum.form
      rw [hre] at hc hnum
      have hnk := HLN.out k h1
      have c2 := (HEE.out w (Below.refl _ _)).c2
      have HBK := Hid.mk' (HBA.out k h1)
      by_cases hsh : ns k = m
      · have HRK := Hid.mk' (HRU.out k h1 hsh)
        rw [hsh] at hc hnum
        obtain ⟨rb, ro, rfl, hrow⟩ : ∃ rb ro, rad = some ⟨rb, ro, none⟩ ∧ RowAt w rb ro m (zs k) := by
          rcases hnum with ⟨_, _, _, h6⟩ | ⟨rb, ro, c, h6, _, h7⟩
          · have := HM0.out; omega
          · simp only [Value.slice.injEq, true_and] at h6
            exact ⟨rb, ro, h6.1, h7⟩
        have hmx := HCX.out rb ro rcap m (zs k) w hrow HM0.out (by omega)
        have HMN := Hid.mk' hmx.1
        have HMX := Hid.mk' hmx.2
        have HNX : Hid (ruB ns zs k = false → anyS (ruB ns zs) (k + 1) = false) := fun hq => by rw [anyS, HS.out, hq]; rfl
        have hnn : ((m : Int) != (m : Int)) = false := by simp
        clear hre hnum hsh hrow hmx hnk
        generalize minTo (zs k) (m - 1) = mn at *
        generalize maxTo (zs k) (m - 1) = mx at *
        by_cases hneg : mn < 0
        · have HF := Hid.mk' (HBK.out (by rw [HRK.out, decide_eq_true hneg]; rfl))
          have hnd : decide (mn < 0) = true := decide_eq_true hneg
          go_wp2_with fail
          refine HMN.out.mono ?_
          rintro e w2 ⟨rfl, hw2⟩
          rw [hw2]
          clear hw2 HMN HMX
          go_wp2_with fail
          go_ret
          exact ⟨by rw [HF.out, errV_3v]; rfl, Below.refl _ _⟩
        · have hnd : decide (mn < 0) = false := decide_eq_false hneg
          by_cases hbig : (m : Int) ≤ mx
          · have HF := Hid.mk' (HBK.out (by rw [HRK.out, decide_eq_true hbig, Bool.or_true]))
            have hbd : decide ((m : Int) ≤ mx) = true := decide_eq_true hbig
            go_wp2_with fail
            refine HMN.out.mono ?_
            rintro e w2 ⟨rfl, hw2⟩
            rw [hw2]
            clear hw2 HMN
            go_wp2_with fail
            refine HMX.out.mono ?_
            rintro e w2 ⟨rfl, hw2⟩
            rw [hw2]
            clear hw2 HMX
            go_wp2_with fail
            go_ret
            exact ⟨by rw [HF.out, errV_3v]; rfl, Below.refl _ _⟩
          · have HF := Hid.mk' (HNX.out (by rw [HRK.out, hnd, decide_eq_false hbig]; rfl))
            have hbd : decide ((m : Int) ≤ mx) = false := decide_eq_false hbig
            go_wp2_with fail
            refine HMN.out.mono ?_
            rintro e w2 ⟨rfl, hw2⟩
            rw [hw2]
            clear hw2 HMN
            go_wp2_with fail
            refine HMX.out.mono ?_
            rintro e w2 ⟨rfl, hw2⟩
            rw [hw2]
            clear hw2 HMX
            go_wp2_with fail
            exact ⟨⟨k + 1, h1, by go_num, HF.out, trivial⟩, by simp [intOf]; omega⟩
      · have hsd : ((ns k : Int) != (m : Int)) = true := by rw [bne_iff_ne]; omega
        have HF := Hid.mk' (HBK.out (HRN.out k hsh))
        clear hre hnum hsh
        generalize ns k = nk at *
        go_wp2_with fail
        go_ret
        exact ⟨by rw [HF.out, errV_3v]; rfl, Below.refl _ _⟩
    · obtain rfl : k = n := by omega
      have hkI : ¬ ((k : Int) < (k : Int)) := by omega
      have HBF : Hid (rlBad k ns zs = false) := HS.out
      have HLEN : Hid (∀ i, i < k → ns i = m) := fun i hi => by
        have h5 := anyS_no HBF.out i hi
        rw [ruB, Bool.or_eq_false_iff, decide_eq_false_iff_not] at h5
        rw [HMM.out]; omega
      clear HS HBA HRU HRN HCX
      go_wp2_with fail
      go_loopw [55] (fun t wr => ∃ j : Nat, j ≤ k ∧ t = .int .i64 j ∧ Hid (anyS (dwB ns zs) j = false) ∧ Hid (Below w.heap.size w wr)) (fun t _ => k - (intOf t).toNat)
      case atStart => exact ⟨0, Nat.zero_le _, rfl, rfl, Below.refl _ _⟩
      case round =>
        obtain ⟨j, hj, rfl, HS, HB⟩ := hrel
        have hj0 : (0 : Int) ≤ (j : Int) := by omega
        rcases Nat.lt_or_ge j k with h2 | h2
        · have hjI : (j : Int) < (k : Int) := by omega
          obtain ⟨hc, hnum⟩ := HR.out wr HB.out j h2
          obtain ⟨rad, rcap, hre⟩ := hnum.form
          rw [hre] at hc hnum
          have HBJ := Hid.mk' (HBN.out HBF.out j h2)
          have hsh := HLEN.out j h2
          rw [hsh] at hc hnum
          obtain ⟨rb, ro, rfl, hrow⟩ : ∃ rb ro, rad = some ⟨rb, ro, none⟩ ∧ RowAt wr rb ro m (zs j) := by
            rcases hnum with ⟨_, _, _, h6⟩ | ⟨rb, ro, c, h6, _, h7⟩
            · have := HM0.out; omega
            · simp only [Value.slice.injEq, true_and] at h6
              exact ⟨rb, ro, h6.1, h7⟩
          have HSO := Hid.mk' (isSorted_any rb ro rcap m (zs j) wr hrow HM0.out hn0)
          have HDE : Hid (dwB ns zs j = rowDn m (zs j)) := by show rowDn (ns j) (zs j) = _; rw [hsh]
          have HNX : Hid (dwB ns zs j = false → anyS (dwB ns zs) (j + 1) = false) := fun hq => by rw [anyS, HS.out, hq]; rfl
          clear hre hnum hsh hrow
          generalize rowDn m (zs j) = rd at *
          cases rd with
          | true =>
            have HF := Hid.mk' (HBJ.out HDE.out)
            go_wp2_with fail
            refine HSO.out.mono ?_
            rintro e w2 ⟨rfl, hb2⟩
            have HB2 := Hid.mk' (below_chain HB.out hb2)
            have c6 := (HEE.out w2 HB2.out).c6
            clear hb2 HSO
            go_wp2_with fail
            go_ret
            exact ⟨by rw [HF.out, errV_7s]; rfl, HB2.out⟩
          | false =>
            have HF := Hid.mk' (HNX.out HDE.out)
            go_wp2_with fail
            refine HSO.out.mono ?_
            rintro e w2 ⟨rfl, hb2⟩
            have HB2 := Hid.mk' (below_chain HB.out hb2)
            clear hb2 HSO
            go_wp2_with fail
            exact ⟨⟨j + 1, h2, by go_num, HF.out, HB2.out⟩, by simp [intOf]; omega⟩
        · obtain rfl : j = k := by omega
          have hjI : ¬ ((j : Int) < (j : Int)) := by omega
          have HF := Hid.mk' (HBZ.out HBF.out HS.out)
          go_wp2_with fail
          go_ret
          exact ⟨by rw [HF.out, errV_zero]; rfl, HB.out⟩
end Go.Proofs.YtobmngkaoahmiaaDoor
