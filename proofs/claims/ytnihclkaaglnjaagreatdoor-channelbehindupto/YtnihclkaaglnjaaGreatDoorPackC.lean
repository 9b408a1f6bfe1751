/- The program's Behind, of two right channels that fit. -/
import Derived.Test.YtnihclkaaglnjaaGreatDoorBhMath
import Derived.Test.YtnihclkaaglnjaaGreatDoorCnTab
import Derived.Test.YtnihclkaaglnjaaGreatDoorPackB
import Derived.Test.YtnihclkaaglnjaaGreatDoorCnVal
import Derived.Test.YtnihclkaaglnjaaGreatDoorCodedV
namespace Go.Proofs.YtnihclkaaglnjaaGreatDoor
open Go.RowKit

theorem frc_at {w : World} {g C : Nat} {X : Nat → Nat} {D : Nat} (h : RowIs w g (2 * C) (frC fun k => lowP (X k) D)) : FcAt w (.slice (some ⟨g, 0, none⟩) C C) (frcL X D C) := by
  refine ⟨some ⟨g, 0, none⟩, C, by rw [frcL_length], fun i p hp => ?_⟩
  have hi : i < C := by have := (List.getElem?_eq_some_iff.mp hp).1; rw [frcL_length] at this; exact this
  rw [frcL_get hi] at hp
  obtain rfl : lowP (X i) D = p := by simpa using hp
  refine ⟨g, 0, rfl, ?_, ?_⟩
  · rw [Nat.zero_add, h.row (i * 2) (by omega), frC_num]
  · rw [Nat.zero_add, h.row (i * 2 + 1) (by omega), frC_den]
def bhZ (R C : Nat) (za zb : Nat → Nat → Int) (i k : Nat) : Int := (wholeP (lcmP (bhL R C za zb i)) (lowP (bhX R C za zb i k) (bhD R C za zb i)) : Int)

set_option maxRecDepth 100000 in
set_option maxHeartbeats 8000000 in
theorem Behind_main (a : Nat → Addr) (u : Value) (Q : Nat) (va : Nat → Value) (na : Nat → Nat) (za : Nat → Nat → Int) (v : Value) (R : Nat) (vb : Nat → Value) (nb : Nat → Nat) (zb : Nat → Nat → Int) (w : World) (hE : Errs w a) (hu : TabAt w u Q va na za) (h : TabAt w v R vb nb zb) (he1 : chanErr Q na za = 0) (he2 : chanErr R nb zb = 0) (h3 : na 0 = R) :
    Calls Tryz.prog 8 #[u, v] w fun e w' => ((∀ i, i < Q → lcmP (bhL R (nb 0) za zb i) ≤ 256) → ∃ g rb, e = .returned (.tuple #[.slice (some ⟨g, 0, none⟩) Q Q, .nilIface]) ∧ FG w w' g Q (nb 0) (nb 0) Q rb (fun i k => .int .i64 (bhZ R (nb 0) za zb i k))) ∧ ((∃ i, i < Q ∧ 256 < lcmP (bhL R (nb 0) za zb i)) → e = .returned (.tuple #[.slice none 0 0, errV a 2])) ∧ Below w.heap.size w w' := by
  obtain ⟨hok, hna, hnb⟩ := bhOk_of he1 he2 h3
  have hV1 := chanValid_any a u Q va na za w hE hu (by have := hok.q16; omega) (fun i hi => by rw [hna i hi]; have := hok.r16; omega)
  have hV2 := chanValid_any a v R vb nb zb w hE h (by have := hok.r16; omega) (fun i hi => by rw [hnb i hi]; have := hok.c16; omega)
  have he : errV a 0 = .nilIface := rfl
  rw [he1, he] at hV1
  rw [he2, he] at hV2
  obtain ⟨i1, hi, hz0, hz1, hz2⟩ := info_parts Tryz.infoInts
  have HINI : Hid (Tryz.prog.info? 26 = some i1 ∧ i1.zero = some (.slice none 0 0) ∧ i1.size = 1 ∧ i1.bytes = 24) := ⟨hi, hz0, hz1, hz2⟩
  clear hi hz0 hz1 hz2
  have HONE : Hid (∀ W, Below w.heap.size w W → Calls Tryz.prog 20 #[v] W fun e w' => ∃ (F : Nat → Value) (lo : Nat), e = .returned (.slice (some ⟨W.heap.size, 0, none⟩) R R) ∧ W.heap.size < lo ∧ (∀ j, j < R → w'.cell? ⟨W.heap.size, j, none⟩ = some (F j)) ∧ (∀ j, j < R → NatsW lo w'.heap.size w' (F j) (nb 0) (bhV R (nb 0) zb j)) ∧ Below W.heap.size W w') := fun W hb => oneSum_any v R vb nb zb (nb 0) W (h.later hb) hnb hok.r0 hok.r16 hok.c0 hok.c16 (fun i hi k hk => ((hok.okb i hi).lt hk).1) hok.leb
  obtain ⟨ub, uo, ucap, rfl, hrows⟩ : ∃ b o cap, u = .slice (some ⟨b, o, none⟩) Q cap ∧ ∀ i, i < Q → w.cell? ⟨b, o + i, none⟩ = some (va i) ∧ NumsAt w (va i) (na i) (za i) := by
    rcases hu with ⟨_, _, _, h1⟩ | ⟨b, o, cap, h1, _, h2⟩
    · have := hok.q0; omega
    · exact ⟨b, o, cap, h1, h2⟩
  have HROW : Hid (∀ i, i < Q → ∃ rb ro rcap, ∀ W, Below w.heap.size w W → W.cell? ⟨ub, uo + i, none⟩ = some (.slice (some ⟨rb, ro, none⟩) R rcap) ∧ RowAt W rb ro R (fun j => ((za i j).toNat : Int))) := fun i hi => by
    obtain ⟨h1, h2⟩ := hrows i hi
    rw [hna i hi] at h2
    rcases h2 with ⟨_, _, _, h3⟩ | ⟨rb, ro, rcap, h3, _, h4⟩
    · have := hok.r0; omega
    · rw [h3] at h1
      exact ⟨rb, ro, rcap, fun W hb => ⟨by rw [hb.cell (cell_lt h1)]; exact h1, toNat_row (h4.later hb) (fun j hj => ((hok.oka i hi).lt hj).1)⟩⟩
  obtain ⟨vad, vcap, rfl⟩ := h.form
  have HE := Hid.mk' hE
  have HOK := Hid.mk' hok
  have HMIX : Hid (∀ (i : Nat) (x : Value) (g0 cap0 lo hi : Nat) (F0 : Nat → Value) (W : World), i < Q → Below w.heap.size w W → NumsAt W x R (fun j => ((za i j).toNat : Int)) → (∀ j, j < R → W.cell? ⟨g0, j, none⟩ = some (F0 j)) → (∀ j, j < R → NatsW lo hi W (F0 j) (nb 0) (bhV R (nb 0) zb j)) →
      Calls Tryz.prog 21 #[x, .slice (some ⟨g0, 0, none⟩) R cap0] W fun e w' => ((∀ k, k < nb 0 → fitT (bhX R (nb 0) za zb i k) (bhD R (nb 0) za zb i)) → ∃ g, e = .returned (.tuple #[.slice (some ⟨g, 0, none⟩) (nb 0) (nb 0), .nilIface]) ∧ RowIs w' g (2 * nb 0) (frC fun k => lowP (bhX R (nb 0) za zb i k) (bhD R (nb 0) za zb i))) ∧ ((∃ k, k < nb 0 ∧ ¬ fitT (bhX R (nb 0) za zb i k) (bhD R (nb 0) za zb i)) → e = .returned (.tuple #[.slice none 0 0, errV a 2])) ∧ Below W.heap.size W w') := fun i x g0 cap0 lo hi F0 W hi' hb hx hc hn => by
    have hz : ∀ j, j < R → (za i j).toNat ≤ 256 := fun j hj => by
      have h1 := sumN_ge (z := za i) (fun k hk => ((hok.oka i hi').lt hk).1) hj
      have h2 := hok.lea i hi'
      omega
    refine mixed_any a x (fun j => (za i j).toNat) g0 cap0 R (nb 0) lo hi F0 (bhV R (nb 0) zb) W (hE.below hb) hx hc hn hok.r0 hok.r16 hok.c0 hok.c16 hz (fun j hj k hk => ?_) (hok.den hi').2.1
    have hzb : (zb j k).toNat ≤ 256 := by
      have h1 := sumN_ge (z := zb j) (fun k hk => ((hok.okb j hj).lt hk).1) hk
      have h2 := hok.leb j hj
      omega
    have ho : othP (bhS (nb 0) zb) j R ≤ 256 ^ 16 := Nat.le_trans (othP_le fun l hl => (hok.sums hl).2.2) (Nat.pow_le_pow_right (by decide) hok.r16)
    have hb2 : bhV R (nb 0) zb j k ≤ 256 ^ 16 * 256 := Nat.mul_le_mul ho hzb
    exact ⟨Nat.lt_of_le_of_lt hb2 (by decide), Nat.le_trans (Nat.mul_le_mul hb2 (hz j hj)) (by decide)⟩
  have hq0 := hok.q0
  have hq16 := hok.q16
  have hc16 := hok.c16
  have hc0 := hok.c0
  have hr0 := hok.r0
  obtain ⟨rb0, ro0, rcap0, hr00⟩ := HROW.out 0 hok.q0
  have HR00 := Hid.mk' hr00
  have hc00 := (hr00 w (Below.refl _ _)).1
  rw [Nat.add_zero] at hc00
  have hqI : (0 : Int) < (Q : Int) := by omega
  have hnb0 : ((R : Int) != (R : Int)) = false := by simp
  have HBZ : Hid (∀ i k, bhZ R (nb 0) za zb i k = (wholeP (lcmP (bhL R (nb 0) za zb i)) (lowP (bhX R (nb 0) za zb i k) (bhD R (nb 0) za zb i)) : Int)) := fun _ _ => rfl
  clear hE hu h he1 he2 h3 hrows hok he hr00 hna hnb
  have hcur0 : Below w.heap.size w w := Below.refl _ _
  have hcur : Below w.heap.size w w.drew := (Below.refl _ _).drew
  generalize nb 0 = C at *
  go_enter Tryz.func8, Tryz.ntmps8
  go_wp2_with fail
  refine hV1.mono ?_
  clear hV1
  rintro e w2 ⟨rfl, hw2⟩
  rw [hw2]
  clear hw2
  go_wp2_with fail
  refine hV2.mono ?_
  clear hV2
  rintro e w2 ⟨rfl, hw2⟩
  rw [hw2]
  clear hw2
  go_wp2_with fail
  obtain ⟨w2, hmk, hown2, hgrow2⟩ := run_make_full (P := Tryz.prog) w.drew w.drew.heap.size 22 26 i1 _ 1 Tryz.underlying22 HINI.out.1 HINI.out.2.1 HINI.out.2.2.1 .i64 .i64 Q (by rw [HINI.out.2.2.2]; omega) (by unfold maxLen; omega) (Nat.le_refl _)
  have HF2 : Hid (RowIs w2 w.heap.size Q (fun _ => .slice none 0 0)) := rowIs_made hown2 (made_one (.slice none 0 0) rfl Q)
  have HB2 : Hid (Below w.heap.size w w2) := (Below.refl _ _).drew.trans (made_below hgrow2)
  clear hown2 hgrow2
  go_cut [8, 9] from 34 (fun s r wx => ∃ (g0 gout lo hi : Nat) (F0 : Nat → Value), s = .slice (some ⟨g0, 0, none⟩) R R ∧ r = .slice (some ⟨gout, 0, none⟩) Q Q ∧ Hid (∀ j, j < R → wx.cell? ⟨g0, j, none⟩ = some (F0 j)) ∧ Hid (∀ j, j < R → NatsW lo hi wx (F0 j) C (bhV R C zb j)) ∧ Hid (RowIs wx gout Q (fun _ => .slice none 0 0)) ∧ w.heap.size ≤ gout ∧ g0 ≠ gout ∧ (gout < lo ∨ hi ≤ gout) ∧ Hid (Below w.heap.size w wx))
  case first =>
    go_region_held3 (fun _ => True) (exact trivial) (first
      | (go_at_call 20; first | refine (HONE.out _ HB2.out).mono ?_ | refine (HONE.out _ hcur).mono ?_
         rintro e w3 ⟨F3, lo3, rfl, hlo3, hc3, hn3, hb3⟩
         obtain ⟨w4, hmk4, hown4, hgrow4⟩ := run_make_full (P := Tryz.prog) w3 w3.heap.size 22 26 i1 _ 1 Tryz.underlying22 HINI.out.1 HINI.out.2.1 HINI.out.2.2.1 .i64 .i64 Q (by rw [HINI.out.2.2.2]; omega) (by unfold maxLen; omega) (Nat.le_refl _)
         have HF4 : Hid (RowIs w4 w3.heap.size Q (fun _ => .slice none 0 0)) := rowIs_made hown4 (made_one (.slice none 0 0) rfl Q)
         have HB34 : Hid (Below w3.heap.size w3 w4) := made_below hgrow4
         have HC3 := Hid.mk' hc3
         have HN3 := Hid.mk' hn3
         have HB3 := Hid.mk' hb3
         clear hown4 hgrow4 hc3 hn3 hb3))
    all_goals
      go_wp2_with fail
      go_meet
      first
        | exact ⟨_, _, lo3, _, F3, rfl, rfl, HC3, HN3, HF2.out.later HB3.out, Nat.le_refl _, Nat.ne_of_gt (cell_lt (HF2.out.row 0 hq0)), Or.inl (Nat.lt_trans (cell_lt (HF2.out.row 0 hq0)) hlo3), below_chain HB2.out HB3.out⟩
        | exact ⟨_, _, lo3, _, F3, rfl, rfl, (fun j hj => (HB34.out.cell (cell_lt (HC3.out j hj))).trans (HC3.out j hj)), (fun j hj => (HN3.out j hj).later HB34.out), HF4, (below_chain hcur HB3.out).size, Nat.ne_of_lt (cell_lt (HC3.out 0 hr0)), Or.inr (Nat.le_refl _), below_chain (below_chain hcur HB3.out) HB34.out⟩
  case rest =>
  clear hmk HF2 HB2
  obtain ⟨g0, gout, lo, hi, F0, rfl, rfl, HC0, HN0, HF2, hgo, hgg, hgr, HB2⟩ := hcut
  go_wp2_with fail
  go_loopw [41] (fun t wr => ∃ (i : Nat) (rb : Nat → Nat), i ≤ Q ∧ t = .int .i64 i ∧ Hid (FG w wr gout Q C C i rb (fun i k => .int .i64 (bhZ R C za zb i k))) ∧ Hid (∀ j, i ≤ j → j < Q → wr.cell? ⟨gout, j, none⟩ = some (.slice none 0 0)) ∧ Hid (∀ j, j < R → wr.cell? ⟨g0, j, none⟩ = some (F0 j)) ∧ Hid (∀ j, j < R → NatsW lo hi wr (F0 j) C (bhV R C zb j)) ∧ Hid (∀ j, j < i → lcmP (bhL R C za zb j) ≤ 256)) (fun t _ => Q - (intOf t).toNat)
  case atStart => exact ⟨0, fun _ => 0, Nat.zero_le _, rfl, fg_start HF2.out HB2.out hgo _ _, (fun j _ hj => HF2.out.row j hj), HC0, HN0, fun j hj => by omega⟩
  case round =>
    clear HF2 HB2 HC0 HN0
    obtain ⟨i, rb, hi', rfl, HG, HS, HC, HN, HL⟩ := hrel
    rcases Nat.lt_or_ge i Q with h1 | h1
    · have hiI : (i : Int) < (Q : Int) := by omega
      have hi0 : (0 : Int) ≤ (i : Int) := by omega
      obtain ⟨rb1, ro1, rcap1, hrw⟩ := HROW.out i h1
      obtain ⟨hc, hrow⟩ := hrw wr HG.out.below
      have hmix := HMIX.out i (.slice (some ⟨rb1, ro1, none⟩) R rcap1) g0 R lo hi F0 wr h1 HG.out.below (Or.inr ⟨_, _, _, rfl, hr0, hrow⟩) HC.out HN.out
      have e2 : errV a 2 = .iface 147 (.pointer (some (a 1))) := rfl
      rw [e2] at hmix
      have HDEN := Hid.mk' (HOK.out.den h1).2.1
      have HSUM := Hid.mk' (HOK.out.sum i)
      clear hrw hrow
      go_wp2_with fail
      refine hmix.mono ?_
      clear hmix
      rintro e w5 ⟨hfit5, hbig5, hb5⟩
      have HB5 := Hid.mk' hb5
      have HFB : Hid (∀ k, k < C → fitT (bhX R C za zb i k) (bhD R C za zb i) → 0 < (lowP (bhX R C za zb i k) (bhD R C za zb i)).2 ∧ (lowP (bhX R C za zb i k) (bhD R C za zb i)).2 ≤ 4611686018427387904) := fun k _ hf => ⟨(lowP_low HDEN.out).1, hf.2⟩
      clear hb5 hc
      by_cases hL : lcmP (bhL R C za zb i) ≤ 256
      · have HFIT : Hid (∀ k, k < C → fitT (bhX R C za zb i k) (bhD R C za zb i) ∧ (lowP (bhX R C za zb i k) (bhD R C za zb i)).2 ≤ 256 ∧ (lowP (bhX R C za zb i k) (bhD R C za zb i)).1 ≤ 256) := fun k hk => frac_fit HDEN.out HSUM.out hL hk
        obtain ⟨g5, e5, hrow5⟩ := hfit5 fun k hk => (HFIT.out k hk).1
        subst e5
        have HLI := Hid.mk' hL
        have hls := leastSum_big (.slice (some ⟨g5, 0, none⟩) C C) (bhL R C za zb i) 256 w5 (frc_at hrow5) (fun p hp => by obtain ⟨k, hk, rfl⟩ := frcL_mem hp; exact HFB.out k hk (HFIT.out k hk).1) (by unfold bhL; rw [frcL_length]; omega) (by decide) (by decide)
        have HR5 := Hid.mk' hrow5
        clear hfit5 hbig5 hrow5
        go_wp2_with fail
        refine hls.mono ?_
        clear hls
        rintro e w6 ⟨hok6, _, hb6⟩
        have e6 := hok6 HLI.out
        subst e6
        have hof := ofSum_any g5 C C (lcmP (bhL R C za zb i)) (fun k => lowP (bhX R C za zb i k) (bhD R C za zb i)) w6 (HR5.out.later hb6) hc16 (fun k hk => ⟨(lowP_low HDEN.out).1, by have := (HFIT.out k hk).2.1; omega, by have := (HFIT.out k hk).2.2; omega⟩) (by omega)
        have HB6 := Hid.mk' (below_chain HB5.out hb6)
        have HLN : Hid (∀ j, j < i + 1 → lcmP (bhL R C za zb j) ≤ 256) := fun j hj => by
          rcases Nat.lt_or_ge j i with h5 | h5
          · exact HL.out j h5
          · obtain rfl : j = i := by omega
            exact HLI.out
        have HBE : Hid (∀ k, (.int .i64 (bhZ R C za zb i k) : Value) = .int .i64 (wholeP (lcmP (bhL R C za zb i)) (lowP (bhX R C za zb i k) (bhD R C za zb i)) : Int)) := fun k => by rw [HBZ.out]
        generalize lcmP (bhL R C za zb i) = L at hof HBE ⊢
        clear hok6 hb6 hL
        go_wp2_with fail
        refine hof.mono ?_
        clear hof
        rintro e w7 ⟨rfl, hrow7, hb7⟩
        have HB7 := Hid.mk' (below_chain HB6.out hb7)
        have HR7 : Hid (RowIs w7 w6.heap.size C (fun k => .int .i64 (bhZ R C za zb i k))) := ⟨fun k hk => by rw [HBE.out]; exact hrow7.row k hk, hrow7.fz⟩
        have HG7 := Hid.mk' (HG.out.later HB7.out)
        have x7 : w7.cell? ⟨gout, i, none⟩ = some (.slice none 0 0) := by
          have := HS.out i (Nat.le_refl _) h1
          rw [HB7.out.cell (cell_lt this)]; exact this
        have f7 := HG7.out.ofz i h1
        have hr7 := HB6.out.size
        have HPU := Hid.mk' (HG.out.push h1 HB7.out hr7 HR7.out)
        have HS8 : Hid (∀ j, i + 1 ≤ j → j < Q → (w7.setCell ⟨gout, i, none⟩ (.slice (some ⟨w6.heap.size, 0, none⟩) C C)).cell? ⟨gout, j, none⟩ = some (.slice none 0 0)) := fun j hj hjQ => by
          have h5 := HS.out j (by omega) hjQ
          rw [put_cell _ x7, if_neg (fun e => by have := congrArg Addr.off e; simp at this; omega), HB7.out.cell (cell_lt h5)]
          exact h5
        have HC8 : Hid (∀ j, j < R → (w7.setCell ⟨gout, i, none⟩ (.slice (some ⟨w6.heap.size, 0, none⟩) C C)).cell? ⟨g0, j, none⟩ = some (F0 j)) := fun j hj => by
          have h5 := HC.out j hj
          rw [put_cell _ x7, if_neg (fun e => by have := congrArg Addr.block e; simp at this; omega), HB7.out.cell (cell_lt h5)]
          exact h5
        have HN8 : Hid (∀ j, j < R → NatsW lo hi (w7.setCell ⟨gout, i, none⟩ (.slice (some ⟨w6.heap.size, 0, none⟩) C C)) (F0 j) C (bhV R C zb j)) := fun j hj => by
          refine ((HN.out j hj).later HB7.out).kept (kept_put x7 (fun x e => by cases e)) (fun b k x hb1 hb2 hx => ?_)
          rw [put_cell _ x7, if_neg (fun e => by have := congrArg Addr.block e; simp at this; omega)]
          exact hx
        clear hrow7 hb7
        go_wp2_with fail
        generalize w7.setCell ⟨gout, i, none⟩ (.slice (some ⟨w6.heap.size, 0, none⟩) C C) = W8 at *
        exact ⟨⟨i + 1, _, h1, by go_num, HPU, HS8, HC8, HN8, HLN⟩, by simp [intOf]; omega⟩
      · have HNL := Hid.mk' hL
        by_cases hfa : ∀ k, k < C → fitT (bhX R C za zb i k) (bhD R C za zb i)
        · obtain ⟨g5, e5, hrow5⟩ := hfit5 hfa
          subst e5
          have hls := leastSum_big (.slice (some ⟨g5, 0, none⟩) C C) (bhL R C za zb i) 256 w5 (frc_at hrow5) (fun p hp => by obtain ⟨k, hk, rfl⟩ := frcL_mem hp; exact HFB.out k hk (hfa k hk)) (by unfold bhL; rw [frcL_length]; omega) (by decide) (by decide)
          clear hfit5 hbig5 hrow5 hfa
          go_wp2_with fail
          refine hls.mono ?_
          clear hls
          rintro e w6 ⟨_, hbig6, hb6⟩
          have e6 := hbig6 (by omega)
          subst e6
          have HB6 := Hid.mk' (below_chain HG.out.below (below_chain HB5.out hb6))
          have cB6 := (HE.out.below HB6.out).c1
          clear hbig6 hb6 hL
          go_wp2_with fail
          go_region
          all_goals
            go_wp2_with fail
            go_ret2
            exact ⟨fun h => absurd (h i h1) HNL.out, fun _ => rfl, HB6.out.drew⟩
        · have hex : ∃ k, k < C ∧ ¬ fitT (bhX R C za zb i k) (bhD R C za zb i) := Classical.byContradiction fun hn => hfa fun k hk => Classical.byContradiction fun hf => hn ⟨k, hk, hf⟩
          have e5 := hbig5 hex
          subst e5
          have HB6 := Hid.mk' (below_chain HG.out.below HB5.out)
          generalize hpa : a 1 = pa
          clear hfit5 hbig5 hex hfa hL
          go_wp2_with fail
          go_ret2
          exact ⟨fun h => absurd (h i h1) HNL.out, fun _ => by rw [e2, hpa]; rfl, HB6.out⟩
    · obtain rfl : i = Q := by omega
      go_wp2_with fail
      go_ret2
      exact ⟨fun _ => ⟨gout, rb, rfl, HG.out⟩, fun ⟨j, hj, hn⟩ => by have := HL.out j hj; omega, HG.out.below⟩
end Go.Proofs.YtnihclkaaglnjaaGreatDoor

/- channel.Table in all cases, and the laws' closed fact: two even symbols, one in four of which is changed. -/
namespace Go.Proofs.YtnihclkaaglnjaaGreatDoor
open Go.RowKit

theorem FG.tab {w wr : World} {g n C : Nat} {rb : Nat → Nat} {Z : Nat → Nat → Int} (h : FG w wr g n C C n rb (fun i k => .int .i64 (Z i k))) (h0 : 0 < n) (hC : 0 < C) : TabAt wr (.slice (some ⟨g, 0, none⟩) n n) n (fun i => .slice (some ⟨rb i, 0, none⟩) C C) (fun _ => C) Z := by
  refine Or.inr ⟨g, 0, n, rfl, h0, fun i hi => ⟨by rw [Nat.zero_add]; exact h.made i hi, Or.inr ⟨rb i, 0, C, rfl, hC, fun k hk => ?_⟩⟩⟩
  rw [Nat.zero_add]
  exact (h.rows i hi).row k hk
/-- The rows of a table as lists. -/
def tabL (R : Nat) (ns : Nat → Nat) (zs : Nat → Nat → Int) : List (List Int) := (List.range R).map fun i => rowL (zs i) (ns i)
theorem atF_rowL {z : Nat → Int} {n i : Nat} (hi : i < n) : atF (rowL z n) i = z i := by
  unfold atF rowL
  rw [List.getD_eq_getElem?_getD, List.getElem?_map, List.getElem?_range hi]; rfl
theorem tab_lol {w : World} {v : Value} {R : Nat} {vs : Nat → Value} {ns : Nat → Nat} {zs : Nat → Nat → Int} (h : TabAt w v R vs ns zs) : LolAt w v (tabL R ns zs) := by
  have hl : (tabL R ns zs).length = R := by simp [tabL]
  rcases h with ⟨ad, cap, rfl, rfl⟩ | ⟨b, o, cap, rfl, h0, hr⟩
  · exact ⟨ad, cap, by simp [tabL], fun i r hr => by simp [tabL] at hr⟩
  · refine ⟨some ⟨b, o, none⟩, cap, by rw [hl], fun i r hi => ?_⟩
    have hiR : i < R := by rw [← hl]; exact (List.getElem?_eq_some_iff.mp hi).1
    have e : r = rowL (zs i) (ns i) := by
      unfold tabL at hi
      rw [List.getElem?_map, List.getElem?_range hiR] at hi
      exact (Option.some.inj hi).symm
    subst e
    refine ⟨b, o, vs i, rfl, (hr i hiR).1, ?_⟩
    rw [rowL_length]
    exact (hr i hiR).2.congr fun k hk => (atF_rowL hk).symm
theorem tabL_same {R : Nat} {ns ns' : Nat → Nat} {zs zs' : Nat → Nat → Int} (h1 : ∀ i, i < R → ns i = ns' i) (h2 : ∀ i k, i < R → k < ns i → zs i k = zs' i k) : tabL R ns zs = tabL R ns' zs' := by
  refine List.map_congr_left fun i hi => ?_
  have hi' := List.mem_range.mp hi
  rw [← h1 i hi']
  exact List.map_congr_left fun k hk => h2 i k hi' (List.mem_range.mp hk)
theorem tabL_row {R : Nat} {ns : Nat → Nat} {zs : Nat → Nat → Int} {B : Nat} (h : ∀ i, i < R → ns i ≤ B) (r : List Int) (hr : r ∈ tabL R ns zs) : r.length ≤ B := by
  obtain ⟨i, hi, rfl⟩ := List.mem_map.mp hr
  rw [rowL_length]
  exact h i (List.mem_range.mp hi)

theorem chTable_any (a : Nat → Addr) (u : Value) (n : Nat) (z : Nat → Int) (v : Value) (R : Nat) (vs : Nat → Value) (ns : Nat → Nat) (zs : Nat → Nat → Int) (w : World) (hE : Errs w a) (hu : NumsAt w u n z) (h : TabAt w v R vs ns zs) (hn : n ≤ 1000) (hR : R ≤ 40) (hns : ∀ i, i < R → ns i ≤ 400) :
    Calls Tryz.prog 12 #[u, v] w fun e w' => ∃ t', e = .returned (.tuple #[t', errV a (taErr n z R ns zs)]) ∧ (taErr n z R ns zs ≠ 0 → t' = .slice none 0 0) ∧ (taErr n z R ns zs = 0 → ∃ vs', TabAt w' t' R vs' (fun _ => ns 0) (outZ n z R (ns 0) zs)) ∧ Below w.heap.size w w' := by
  by_cases h1 : inErr n z R ns zs = 0
  · refine (Table_main a u n z v R vs ns zs w hE hu h h1).mono ?_
    rintro e w' ⟨hA, hB, hb⟩
    obtain ⟨hok, _⟩ := inOk_of h1
    by_cases h2 : 4096 < inL n z R (ns 0) zs
    · have ht : taErr n z R ns zs = 2 := by unfold taErr; rw [if_neg (by omega), if_pos h2]
      refine ⟨_, by rw [hB h2, ht], fun _ => rfl, fun h => ?_, hb⟩
      rw [ht] at h; cases h
    · have ht : taErr n z R ns zs = 0 := by unfold taErr; rw [if_neg (by omega), if_neg h2]
      obtain ⟨g, rb, he, hF⟩ := hA (by omega)
      exact ⟨_, by rw [he, ht]; rfl, fun h => absurd ht h, fun _ => ⟨_, hF.tab hok.n0 hok.c0⟩, hb⟩
  · have ht : taErr n z R ns zs = inErr n z R ns zs := by unfold taErr; rw [if_pos h1]
    by_cases h2 : chanErr R ns zs ≠ 0
    · have ht2 : taErr n z R ns zs = chanErr R ns zs := by rw [ht]; unfold inErr; rw [if_pos h2]
      obtain ⟨ad, cap, rfl⟩ := hu.form
      refine (Table_chan a ad n cap v R vs ns zs w hE h hR hns h2).mono ?_
      rintro e w' ⟨rfl, rfl⟩
      exact ⟨_, by rw [ht2], fun _ => rfl, fun h => by rw [ht2] at h; exact absurd h h2, Below.refl _ _⟩
    · by_cases h3 : weightsErr z n ≠ 0
      · have ht2 : taErr n z R ns zs = weightsErr z n := by rw [ht]; unfold inErr; rw [if_neg h2, if_pos h3]
        refine (Table_weights a u n z v R vs ns zs w hE hu h hn hR hns (by omega) h3).mono ?_
        rintro e w' ⟨rfl, rfl⟩
        exact ⟨_, by rw [ht2], fun _ => rfl, fun h => by rw [ht2] at h; exact absurd h h3, Below.refl _ _⟩
      · have hne : n ≠ R := fun e => h1 (by unfold inErr; rw [if_neg h2, if_neg h3, if_neg (by omega)])
        have ht2 : taErr n z R ns zs = 3 := by rw [ht]; unfold inErr; rw [if_neg h2, if_neg h3, if_pos hne]
        refine (Table_lens a u n z v R vs ns zs w hE hu h hn hR hns (by omega) (by omega) hne).mono ?_
        rintro e w' ⟨rfl, hb⟩
        exact ⟨_, by rw [ht2], fun _ => rfl, (fun h => by rw [ht2] at h; cases h), hb⟩

/-- The two rows of the closed fact. -/
def noisZ (i k : Nat) : Int := if i = k then 3 else 1
theorem noisy_err : inErr 2 (fun _ => 1) 2 (fun _ => 2) noisZ = 0 := by decide
theorem noisy_ta : taErr 2 (fun _ => 1) 2 (fun _ => 2) noisZ = 0 := by decide +kernel
theorem noisy_out (i k : Nat) (hi : i < 2) (hk : k < 2) : outZ 2 (fun _ => 1) 2 2 noisZ i k = noisZ i k := by
  rcases (show i = 0 ∨ i = 1 by omega) with rfl | rfl <;> rcases (show k = 0 ∨ k = 1 by omega) with rfl | rfl <;> decide +kernel
theorem topc_cell (W : World) (c : Array Value) (t : TypeId) {b : Nat} (j : Nat) (hb : b = W.heap.size) : (W.alloc (.cells c t)).cell? ⟨b, j, none⟩ = c[j]? := by subst hb; simp
theorem noisy_table (w : World) (t1 t2 : TypeId) : TabAt (((w.alloc (.cells #[.int .i64 3, .int .i64 1] t1)).alloc (.cells #[.int .i64 1, .int .i64 3] t1)).alloc (.cells #[.slice (some ⟨w.heap.size, 0, none⟩) 2 2, .slice (some ⟨w.heap.size + 1, 0, none⟩) 2 2] t2)) (.slice (some ⟨w.heap.size + 1 + 1, 0, none⟩) 2 2) 2 (fun i => .slice (some ⟨w.heap.size + i, 0, none⟩) 2 2) (fun _ => 2) noisZ := by
  refine Or.inr ⟨_, _, _, rfl, by decide, fun i hi => ⟨?_, Or.inr ⟨_, _, _, rfl, (by show 0 < 2; decide), fun k hk => ?_⟩⟩⟩
  · rcases (show i = 0 ∨ i = 1 by omega) with rfl | rfl
    · exact topc_cell _ _ _ _ (by simp)
    · exact topc_cell _ _ _ _ (by simp)
  · have hk2 : k < 2 := hk
    rcases (show i = 0 ∨ i = 1 by omega) with rfl | rfl
    · rw [World.cell?_alloc_lt _ _ _ (by simp; omega), World.cell?_alloc_lt _ _ _ (by simp)]
      rcases (show k = 0 ∨ k = 1 by omega) with rfl | rfl
      · exact topc_cell _ _ _ _ rfl
      · exact topc_cell _ _ _ _ rfl
    · rw [World.cell?_alloc_lt _ _ _ (by simp)]
      rcases (show k = 0 ∨ k = 1 by omega) with rfl | rfl
      · exact topc_cell _ _ _ _ (by simp)
      · exact topc_cell _ _ _ _ (by simp)

set_option maxRecDepth 100000 in
set_option maxHeartbeats 4000000 in
theorem noisy_any (a : Nat → Addr) (w : World) (hE : Errs w a) : Calls Tryz.prog 4 #[] w fun e w' => e = .returned (.bool true) ∧ Below w.heap.size w w' := by
  obtain ⟨W0, hW0⟩ : ∃ W0, W0 = w.alloc (.cells #[.int .i64 1, .int .i64 1] 3) := ⟨_, rfl⟩
  obtain ⟨W3, hW3⟩ : ∃ W3, W3 = ((W0.alloc (.cells #[.int .i64 3, .int .i64 1] 3)).alloc (.cells #[.int .i64 1, .int .i64 3] 3)).alloc (.cells #[.slice (some ⟨W0.heap.size, 0, none⟩) 2 2, .slice (some ⟨W0.heap.size + 1, 0, none⟩) 2 2] 26) := ⟨_, rfl⟩
  have hs0 : W0.heap.size = w.heap.size + 1 := by rw [hW0]; simp
  have hb0 : Below w.heap.size w W0 := by rw [hW0]; exact (Below.refl _ _).alloc (Nat.le_refl _) _
  have hb3 : Below W0.heap.size W0 W3 := by rw [hW3]; exact (((Below.refl _ _).alloc (Nat.le_refl _) _).alloc (by simp) _).alloc (by simp; omega) _
  have htab : TabAt W3 (.slice (some ⟨W0.heap.size + 1 + 1, 0, none⟩) 2 2) 2 (fun i => .slice (some ⟨W0.heap.size + i, 0, none⟩) 2 2) (fun _ => 2) noisZ := by rw [hW3]; exact noisy_table W0 _ _
  have hnum : NumsAt W0 (.slice (some ⟨w.heap.size, 0, none⟩) 2 2) 2 (fun _ => 1) := by
    refine Or.inr ⟨_, _, _, rfl, by decide, fun i hi => ?_⟩
    rw [hW0]
    rcases (show i = 0 ∨ i = 1 by omega) with rfl | rfl
    · exact topc_cell _ _ _ _ rfl
    · exact topc_cell _ _ _ _ rfl
  have hT := chTable_any a _ 2 (fun _ => 1) _ 2 _ (fun _ => 2) noisZ W3 (hE.below (below_chain hb0 hb3)) (hnum.later hb3) htab (by decide) (by decide) (fun _ _ => by decide)
  rw [noisy_ta, errV_zero] at hT
  have HB3 := Hid.mk' (below_chain hb0 hb3)
  rw [hW3, hs0, hW0] at hT
  clear htab hnum hb0 hb3 hE
  go_enter Tryz.func4, Tryz.ntmps4
  go_wp2_with fail
  refine hT.mono ?_
  clear hT
  rintro e w5 ⟨t5, rfl, _, ht5, hb5⟩
  obtain ⟨vs5, ht5⟩ := ht5 trivial
  rw [← hs0, ← hW0, ← hW3] at hb5
  obtain ⟨ad5, cap5, rfl⟩ := ht5.form
  have HL5 : Hid (LolAt w5 (.slice ad5 2 cap5) (tabL 2 (fun _ => 2) noisZ)) := by
    have := tab_lol ht5
    rw [tabL_same (ns' := fun _ => 2) (zs' := noisZ) (fun _ _ => rfl) (fun i k hi hk => noisy_out i k hi hk)] at this
    exact this
  have HB5 := Hid.mk' (below_chain HB3.out hb5)
  clear ht5 hb5 hs0 hW0 hW3
  go_wp2_with fail
  have HB6 : Hid (Below w5.heap.size w5 (((w5.alloc (.cells #[.int .i64 3, .int .i64 1] 3)).alloc (.cells #[.int .i64 1, .int .i64 3] 3)).alloc (.cells #[.slice (some ⟨w5.heap.size, 0, none⟩) 2 2, .slice (some ⟨w5.heap.size + 1, 0, none⟩) 2 2] 26))) := (((Below.refl _ _).alloc (Nat.le_refl _) _).alloc (by simp) _).alloc (by simp; omega) _
  refine (SameLists_any _ _ (tabL 2 (fun _ => 2) noisZ) _ (HL5.out.later HB6.out) (tab_lol (noisy_table w5 3 26)) (by decide) (fun r hr => Nat.le_trans (tabL_row (B := 2) (fun _ _ => Nat.le_refl _) r hr) (by decide))).mono ?_
  rintro e w7 ⟨rfl, hb7⟩
  have HB7 := Hid.mk' (below_chain HB5.out (below_chain HB6.out hb7))
  clear hb7
  go_wp2_with fail
  go_ret
  exact ⟨rfl, HB7.out⟩
end Go.Proofs.YtnihclkaaglnjaaGreatDoor

/- The document's BehindOf. -/
namespace Go.Proofs.YtnihclkaaglnjaaGreatDoor
open Go.RowKit

theorem RatioAt.sl2 {w : World} {r : Value} {n : Int} {d : Nat} (h : RatioAt w r n d) : ∃ (t : Bool) (a1 : Option Addr) (l1 c1 : Nat) (a2 : Option Addr) (l2 c2 : Nat), r = .agg #[.bool t, .slice a1 l1 c1, .slice a2 l2 c2] := by
  obtain ⟨u, q, rfl, hu, hq⟩ := h
  obtain ⟨a1, l1, c1, rfl, _⟩ := hu.len
  obtain ⟨a2, l2, c2, rfl, _⟩ := hq.len
  exact ⟨_, _, _, _, _, _, _, rfl⟩
theorem tabL_snoc (C : Nat) (Z : Nat → Nat → Int) (i : Nat) : tabL (i + 1) (fun _ => C) Z = tabL i (fun _ => C) Z ++ [rowL (Z i) C] := by simp [tabL, List.range_succ]
theorem tabL_length (C : Nat) (Z : Nat → Nat → Int) (i : Nat) : (tabL i (fun _ => C) Z).length = i := by simp [tabL]
theorem own_lower {w : World} {b1 b2 : Nat} {t : TypeId} {sz : Nat} {v : Value} {n : Nat} {xs : List Value} (h : w.ownsRow b1 t sz v n xs) (hb : b2 ≤ b1) : w.ownsRow b2 t sz v n xs := by
  refine ⟨h.1, ?_⟩
  rcases h.2 with hn | ⟨g, cap, cur, hv, hg, rest⟩
  · exact Or.inl hn
  · exact Or.inr ⟨g, cap, cur, hv, Nat.le_trans hb hg, rest⟩
theorem low_part {a b A S o P : Nat} (ho : 0 < o) (hP : o * S = P) : lowP (a * b) (A * S) = lowP (o * b * a) (A * P) := by
  have e1 : o * b * a = o * (a * b) := by rw [Nat.mul_assoc, Nat.mul_comm b a]
  have e2 : A * P = o * (A * S) := by rw [← hP, Nat.mul_left_comm]
  rw [e1, e2, lowP_scale ho]
theorem othP_pos {S : Nat → Nat} {i : Nat} : ∀ {k : Nat}, (∀ j, j < k → 0 < S j) → 0 < othP S i k
  | 0, _ => Nat.one_pos
  | k + 1, h => by
    have h1 := othP_pos (i := i) (k := k) fun j hj => h j (by omega)
    show 0 < if k = i then othP S i k else othP S i k * S k
    split
    · exact h1
    · exact Nat.mul_pos h1 (h k (by omega))
theorem sumW_part {f : Nat → Nat} : ∀ {k n : Nat}, k ≤ n → sumW f k ≤ sumW f n
  | k, 0, h => by obtain rfl : k = 0 := by omega
                  exact Nat.le_refl _
  | k, n + 1, h => by
    rcases Nat.lt_or_ge k (n + 1) with h1 | h1
    · exact Nat.le_trans (sumW_part (by omega)) (Nat.le_add_right _ _)
    · obtain rfl : k = n + 1 := by omega
      exact Nat.le_refl _

set_option maxRecDepth 100000 in
set_option maxHeartbeats 16000000 in
theorem BehindOf_main (u : Value) (Q : Nat) (va : Nat → Value) (na : Nat → Nat) (za : Nat → Nat → Int) (v : Value) (R : Nat) (vb : Nat → Value) (nb : Nat → Nat) (zb : Nat → Nat → Int) (w : World) (hu : TabAt w u Q va na za) (h : TabAt w v R vb nb zb) (he1 : chanErr Q na za = 0) (he2 : chanErr R nb zb = 0) (h3 : na 0 = R) :
    Calls Tryz.prog 7 #[u, v] w fun e w' => ((∀ i, i < Q → lcmP (bhL R (nb 0) za zb i) ≤ 256) → ∃ t, e = .returned (.tuple #[t, .bool true]) ∧ LolAt w' t (tabL Q (fun _ => nb 0) (bhZ R (nb 0) za zb))) ∧ ((∃ i, i < Q ∧ 256 < lcmP (bhL R (nb 0) za zb i)) → e = .returned (.tuple #[.slice none 0 0, .bool false])) ∧ Below w.heap.size w w' := by
  obtain ⟨hok, hna, hnb⟩ := bhOk_of he1 he2 h3
  obtain ⟨i1, hi, hz0, hz1, hz2⟩ := info_parts Tryz.infoInts
  have HINI : Hid (Tryz.prog.info? 26 = some i1 ∧ i1.zero = some (.slice none 0 0) ∧ i1.size = 1 ∧ i1.bytes = 24) := ⟨hi, hz0, hz1, hz2⟩
  clear hi hz0 hz1 hz2
  obtain ⟨i0, hi, hz0, hz1, hz2⟩ := info_parts Tryz.infoRt
  have HINF : Hid (Tryz.prog.info? 43 = some i0 ∧ i0.zero = some (.agg #[.bool false, .slice none 0 0, .slice none 0 0]) ∧ i0.size = 3 ∧ i0.bytes = 56) := ⟨hi, hz0, hz1, hz2⟩
  have HZN : Hid (∀ u, u ∈ (Value.agg #[.bool false, .slice none 0 0, .slice none 0 0]).cells.toList → notI u) := fun u hu x e => by
    subst e
    simp [Value.cells] at hu
  clear hi hz0 hz1 hz2
  obtain ⟨ub, uo, ucap, rfl, hrows⟩ : ∃ b o cap, u = .slice (some ⟨b, o, none⟩) Q cap ∧ ∀ i, i < Q → w.cell? ⟨b, o + i, none⟩ = some (va i) ∧ NumsAt w (va i) (na i) (za i) := by
    rcases hu with ⟨_, _, _, h1⟩ | ⟨b, o, cap, h1, _, h2⟩
    · have := hok.q0; omega
    · exact ⟨b, o, cap, h1, h2⟩
  have HROW : Hid (∀ i, i < Q → ∃ rb ro rcap, ∀ W, Below w.heap.size w W → W.cell? ⟨ub, uo + i, none⟩ = some (.slice (some ⟨rb, ro, none⟩) R rcap) ∧ RowAt W rb ro R (fun j => ((za i j).toNat : Int)) ∧ RowAt W rb ro R (za i)) := fun i hi => by
    obtain ⟨h1, h2⟩ := hrows i hi
    rw [hna i hi] at h2
    rcases h2 with ⟨_, _, _, h3⟩ | ⟨rb, ro, rcap, h3, _, h4⟩
    · have := hok.r0; omega
    · rw [h3] at h1
      exact ⟨rb, ro, rcap, fun W hb => ⟨by rw [hb.cell (cell_lt h1)]; exact h1, toNat_row (h4.later hb) (fun j hj => ((hok.oka i hi).lt hj).1), h4.later hb⟩⟩
  obtain ⟨vbk, vo, vcap, rfl, hcols⟩ : ∃ b o cap, v = .slice (some ⟨b, o, none⟩) R cap ∧ ∀ i, i < R → w.cell? ⟨b, o + i, none⟩ = some (vb i) ∧ NumsAt w (vb i) (nb i) (zb i) := by
    rcases h with ⟨_, _, _, h1⟩ | ⟨b, o, cap, h1, _, h2⟩
    · have := hok.r0; omega
    · exact ⟨b, o, cap, h1, h2⟩
  have HCOL : Hid (∀ i, i < R → ∃ rb ro rcap, ∀ W, Below w.heap.size w W → W.cell? ⟨vbk, vo + i, none⟩ = some (.slice (some ⟨rb, ro, none⟩) (nb 0) rcap) ∧ RowAt W rb ro (nb 0) (fun j => ((zb i j).toNat : Int)) ∧ RowAt W rb ro (nb 0) (zb i)) := fun i hi => by
    obtain ⟨h1, h2⟩ := hcols i hi
    rw [hnb i hi] at h2
    rcases h2 with ⟨_, _, _, h3⟩ | ⟨rb, ro, rcap, h3, _, h4⟩
    · have := hok.c0; omega
    · rw [h3] at h1
      exact ⟨rb, ro, rcap, fun W hb => ⟨by rw [hb.cell (cell_lt h1)]; exact h1, toNat_row (h4.later hb) (fun j hj => ((hok.okb i hi).lt hj).1), h4.later hb⟩⟩
  have HOK := Hid.mk' hok
  have hq0 := hok.q0
  have hq16 := hok.q16
  have hr16 := hok.r16
  have hc16 := hok.c16
  have hc0 := hok.c0
  have hr0 := hok.r0
  have HBZ : Hid (∀ i k, bhZ R (nb 0) za zb i k = (wholeP (lcmP (bhL R (nb 0) za zb i)) (lowP (bhX R (nb 0) za zb i k) (bhD R (nb 0) za zb i)) : Int)) := fun _ _ => rfl
  obtain ⟨rb0, ro0, rcap0, hr00⟩ := HCOL.out 0 hok.r0
  have HR00 : Hid (∀ W, Below w.heap.size w W → W.cell? ⟨vbk, vo, none⟩ = some (.slice (some ⟨rb0, ro0, none⟩) (nb 0) rcap0)) := fun W hb => by have := (hr00 W hb).1; rwa [Nat.add_zero] at this
  have hRI : (0 : Int) < (R : Int) := by omega
  clear hu h he1 he2 h3 hrows hok hna hnb hcols hr00
  generalize nb 0 = C at *
  go_enter Tryz.func7, Tryz.ntmps7
  go_wp2_with fail
  go_loopw [6, 7] (fun s t wr => ∃ (i : Nat) (vs : List Value), i ≤ Q ∧ t = .int .i64 i ∧ Hid (LolOwn w.heap.size w.heap.size wr s (tabL i (fun _ => C) (bhZ R C za zb)) vs) ∧ Hid (∀ j, j < i → lcmP (bhL R C za zb j) ≤ 256) ∧ Hid (Below w.heap.size w wr)) (fun _ t _ => Q - (intOf t).toNat)
  case atStart => exact ⟨0, [], Nat.zero_le _, rfl, LolOwn.nil _ _ _, (fun j hj => by omega), Below.refl _ _⟩
  case round =>
    obtain ⟨i, vs, hi, rfl, HLO, HLL, HB⟩ := hrel
    rcases Nat.lt_or_ge i Q with h1 | h1
    · have hiI : (i : Int) < (Q : Int) := by omega
      have hi0 : (0 : Int) ≤ (i : Int) := by omega
      obtain ⟨ra, ro, rcap, hrw⟩ := HROW.out i h1
      have HRW := Hid.mk' hrw
      clear hrw
      have hoka := HOK.out.oka i h1
      obtain ⟨hsa1, hsa2, hsa3⟩ := HOK.out.suma h1
      obtain ⟨hd1, hd2, hd3⟩ := HOK.out.den h1
      have HDE := Hid.mk' hd1
      have HDP := Hid.mk' hd2
      have HDM := Hid.mk' hd3
      have HSA : Hid (∀ W, Below w.heap.size w W → Calls Tryz.prog 17 #[.slice (some ⟨ra, ro, none⟩) R rcap] W fun e w' => e = .returned (.int .i64 ((sumN (za i) R).toNat : Int)) ∧ w' = W) := fun W hb => by
        refine (Sum_some ra ro rcap R (za i) W (HRW.out W hb).2.2 (fun m hm => by have := hoka.part hm; omega) (fun m hm => by have := hoka.lt hm; omega) (by omega)).mono ?_
        rintro e w1 ⟨rfl, rfl⟩
        exact ⟨by congr 2; omega, rfl⟩
      have HAB : Hid (∀ j, j < R → (za i j).toNat ≤ 256) := fun j hj => by
        have h5 := sumN_ge (z := za i) (fun k hk => (hoka.lt hk).1) hj
        have := HOK.out.lea i h1
        omega
      have hSA := hsa2
      have hSA3 := hsa3
      clear hsa1 hsa2 hsa3 hd1 hd2 hd3 hoka
      generalize hAe : (sumN (za i) R).toNat = A at *
      clear hAe
      obtain ⟨wi, hwi⟩ : ∃ wi, wi = wr := ⟨_, rfl⟩
      rw [← hwi] at HLO HB ⊢
      clear hwi
      go_wp2_with fail
      go_loopw [8, 9] (fun s t wr => ∃ (k : Nat) (cs : List (Value × Value)), k ≤ C ∧ t = .int .i64 k ∧ Hid (RtOwn wi.heap.size wr s (frcL (bhX R C za zb i) (bhD R C za zb i) k) cs) ∧ Hid (Below wi.heap.size wi wr)) (fun _ t _ => C - (intOf t).toNat)
      case atStart => exact ⟨0, [], Nat.zero_le _, rfl, rtOwn_nil _ _, Below.refl _ _⟩
      case round =>
        obtain ⟨k, cs, hk, rfl, HO, HBI⟩ := hrel
        have hc00 := HR00.out wr (below_chain HB.out HBI.out)
        rcases Nat.lt_or_ge k C with h2 | h2
        · have hkI : (k : Int) < (C : Int) := by omega
          have hk0 : (0 : Int) ≤ (k : Int) := by omega
          obtain ⟨wk, hwk⟩ : ∃ wk, wk = wr := ⟨_, rfl⟩
          rw [← hwk] at HO HBI hc00 ⊢
          clear hwk
          have HBK := Hid.mk' (below_chain HB.out HBI.out)
          go_wp2_with fail
          refine (RatioOf_parts 0 1 wk (by decide) (by decide) (by decide)).mono ?_
          rintro e w3 ⟨a3, l3, c3, a4, l4, c4, rfl, h3, h4, hb3⟩
          have HG0 : Hid (GBox wk (w3.alloc (.cells #[.bool false, .slice a3 l3 c3, .slice a4 l4 c4] 43)) w3.heap.size (lowP (mixX (bhV R C zb) (fun j => (za i j).toNat) 0 k) (bhD R C za zb i)).1 (lowP (mixX (bhV R C zb) (fun j => (za i j).toNat) 0 k) (bhD R C za zb i)).2) := by
            have e0 : lowP (mixX (bhV R C zb) (fun j => (za i j).toNat) 0 k) (bhD R C za zb i) = lowP 0 1 := by
              have := lowP_scale (a := 0) (b := 1) HDP.out
              rw [Nat.mul_one, Nat.mul_zero] at this
              exact this
            rw [e0]
            exact gBox_new hb3 h3 h4
          clear h3 h4 hb3 hc00
          go_wp2_with fail
          go_loopw [11] (fun t wr => ∃ j : Nat, j ≤ R ∧ t = .int .i64 j ∧ Hid (GBox wk wr w3.heap.size (lowP (mixX (bhV R C zb) (fun j => (za i j).toNat) j k) (bhD R C za zb i)).1 (lowP (mixX (bhV R C zb) (fun j => (za i j).toNat) j k) (bhD R C za zb i)).2)) (fun t _ => R - (intOf t).toNat)
          case atStart => exact ⟨0, Nat.zero_le _, rfl, HG0⟩
          case round =>
            clear HG0
            obtain ⟨j, hj, rfl, HG⟩ := hrel
            rcases Nat.lt_or_ge j R with h3 | h3
            · have hjI : (j : Int) < (R : Int) := by omega
              have hj0 : (0 : Int) ≤ (j : Int) := by omega
              have HBW := Hid.mk' (below_chain HBK.out HG.out.below)
              obtain ⟨cb, co, ccap, hcl⟩ := HCOL.out j h3
              have HCL := Hid.mk' hcl
              have hokb := HOK.out.okb j h3
              obtain ⟨hs1, hs2, hs3⟩ := HOK.out.sums h3
              have HSB : Hid (∀ W, Below w.heap.size w W → Calls Tryz.prog 17 #[.slice (some ⟨cb, co, none⟩) C ccap] W fun e w' => e = .returned (.int .i64 (bhS C zb j : Int)) ∧ w' = W) := fun W hb => by
                refine (Sum_some cb co ccap C (zb j) W (HCL.out W hb).2.2 (fun m hm => by have := hokb.part hm; omega) (fun m hm => by have := hokb.lt hm; omega) (by omega)).mono ?_
                rintro e w1 ⟨rfl, rfl⟩
                refine ⟨?_, rfl⟩
                have h7 := hokb.pos
                unfold bhS
                congr 2
                omega
              have hbk : (zb j k).toNat ≤ 256 := by
                have h5 := sumN_ge (z := zb j) (fun k hk => (hokb.lt hk).1) h2
                have := HOK.out.leb j h3
                omega
              have haj := HAB.out j h3
              have HLP : Hid (lowP ((za i j).toNat * (zb j k).toNat) (A * bhS C zb j) = lowP (bhV R C zb j k * (za i j).toNat) (bhD R C za zb i)) := by
                show _ = _
                rw [HDE.out]
                exact low_part (othP_pos fun l hl => (HOK.out.sums hl).2.1) (othP_mul h3)
              have HXN : Hid (mixX (bhV R C zb) (fun j => (za i j).toNat) (j + 1) k = mixX (bhV R C zb) (fun j => (za i j).toNat) j k + bhV R C zb j k * (za i j).toNat) := rfl
              have HXL : Hid (mixX (bhV R C zb) (fun j => (za i j).toNat) j k + bhV R C zb j k * (za i j).toNat ≤ bhD R C za zb i) := by
                have h5 : mixX (bhV R C zb) (fun j => (za i j).toNat) (j + 1) k ≤ bhX R C za zb i k := sumW_part h3
                have h6 : bhX R C za zb i k ≤ sumW (bhX R C za zb i) C := sumW_ge h2
                rw [HOK.out.sum] at h6
                exact Nat.le_trans h5 h6
              have HDL : Hid (bhD R C za zb i < 1000000 ^ 24) := Nat.lt_of_le_of_lt HDM.out (by decide)
              have HCC : Hid (∀ W, Below w.heap.size w W → W.cell? ⟨ub, uo + i, none⟩ = some (.slice (some ⟨ra, ro, none⟩) R rcap) ∧ W.cell? ⟨ra, ro + j, none⟩ = some (.int .i64 ((za i j).toNat : Int)) ∧ W.cell? ⟨vbk, vo + j, none⟩ = some (.slice (some ⟨cb, co, none⟩) C ccap) ∧ W.cell? ⟨cb, co + k, none⟩ = some (.int .i64 ((zb j k).toNat : Int))) := fun W hb => ⟨(HRW.out W hb).1, (HRW.out W hb).2.1 j h3, (HCL.out W hb).1, (HCL.out W hb).2.1 k h2⟩
              have HRA : Hid (∀ W, Calls Tryz.prog 14 #[.int .i64 ((za i j).toNat : Int), .int .i64 (A : Int)] W fun e w' => ∃ r, e = .returned r ∧ RatioAt w' r ((lowP (za i j).toNat A).1 : Int) (lowP (za i j).toNat A).2 ∧ Below W.heap.size W w') := fun W => RatioOf_lowP (za i j).toNat A W (by omega) hSA (by omega)
              have HRB : Hid (∀ W, Calls Tryz.prog 14 #[.int .i64 ((zb j k).toNat : Int), .int .i64 (bhS C zb j : Int)] W fun e w' => ∃ r, e = .returned r ∧ RatioAt w' r ((lowP (zb j k).toNat (bhS C zb j)).1 : Int) (lowP (zb j k).toNat (bhS C zb j)).2 ∧ Below W.heap.size W w') := fun W => RatioOf_lowP (zb j k).toNat (bhS C zb j) W (by omega) hs2 (by omega)
              clear hcl hokb hs1
              generalize bhV R C zb j k * (za i j).toNat = vt at *
              generalize (za i j).toNat = aj at *
              generalize (zb j k).toNat = bk at *
              generalize bhS C zb j = sj at *
              generalize mixX (bhV R C zb) (fun j => (za i j).toNat) j k = xj at *
              obtain ⟨bd1, bm1, bp1, bd2, bm2, bp2, x0, x1, x2, hx1, hx2⟩ := HG.out.box
              have HU1 := Hid.mk' hx1
              have HU2 := Hid.mk' hx2
              have HKS : Hid (∀ W, Below wr.heap.size wr W → (W.cell? ⟨w3.heap.size, 0, none⟩ = some (.bool false) ∧ W.cell? ⟨w3.heap.size, 1, none⟩ = some (.slice bd1 bm1 bp1) ∧ W.cell? ⟨w3.heap.size, 2, none⟩ = some (.slice bd2 bm2 bp2)) ∧ W.cell? ⟨ub, uo + i, none⟩ = some (.slice (some ⟨ra, ro, none⟩) R rcap) ∧ W.cell? ⟨ra, ro + j, none⟩ = some (.int .i64 (aj : Int)) ∧ W.cell? ⟨vbk, vo + j, none⟩ = some (.slice (some ⟨cb, co, none⟩) C ccap) ∧ W.cell? ⟨cb, co + k, none⟩ = some (.int .i64 (bk : Int))) := fun W hb => ⟨⟨by rw [hb.cell (cell_lt x0)]; exact x0, by rw [hb.cell (cell_lt x1)]; exact x1, by rw [hb.cell (cell_lt x2)]; exact x2⟩, HCC.out W (below_chain HBW.out hb)⟩
              have hcur : Below wr.heap.size wr wr.drew := (Below.refl _ _).drew
              clear hx1 hx2 x0 x1 x2
              go_wp2_with fail
              refine region_but_last (n := 29) (S := fun W => (W.cell? ⟨w3.heap.size, 0, none⟩ = some (.bool false) ∧ W.cell? ⟨w3.heap.size, 1, none⟩ = some (.slice bd1 bm1 bp1) ∧ W.cell? ⟨w3.heap.size, 2, none⟩ = some (.slice bd2 bm2 bp2)) ∧ W.cell? ⟨ub, uo + i, none⟩ = some (.slice (some ⟨ra, ro, none⟩) R rcap) ∧ W.cell? ⟨ra, ro + j, none⟩ = some (.int .i64 (aj : Int)) ∧ W.cell? ⟨vbk, vo + j, none⟩ = some (.slice (some ⟨cb, co, none⟩) C ccap) ∧ W.cell? ⟨cb, co + k, none⟩ = some (.int .i64 (bk : Int))) (by kernel_rfl) (by kernel_rfl) (by kernel_rfl) (HKS.out _ hcur) (fun hHeld => ?_)
              refine wpAnyH_take (i := 0) (v := ?v0a) rfl (by kernel_rfl) (by kernel_rfl) (by kernel_rfl) (fun _ _ _ h => h) (Or.inl ⟨by rfl, ?hy0a⟩) (by assumption) ?rest0a
              case hy0a => (intro w hSw; (try dsimp only at hSw); go_simp <;> (try with_reducible rfl))
              simp only [Act.put]
              refine wpAnyH_take (i := 1) (v := ?v1a) rfl (by kernel_rfl) (by kernel_rfl) (by kernel_rfl) (fun _ _ _ h => h) (Or.inl ⟨by rfl, ?hy1a⟩) (by assumption) ?rest1a
              case hy1a => (intro w hSw; (try dsimp only at hSw); go_simp <;> (try with_reducible rfl))
              simp only [Act.put]
              refine wpAnyH_take (i := 2) (v := ?v2a) rfl (by kernel_rfl) (by kernel_rfl) (by kernel_rfl) (fun _ _ _ h => h) (Or.inl ⟨by rfl, ?hy2a⟩) (by assumption) ?rest2a
              case hy2a => (intro w hSw; (try dsimp only at hSw); go_simp <;> (try with_reducible rfl))
              simp only [Act.put]
              refine wpAnyH_take (i := 3) (v := ?v3a) rfl (by kernel_rfl) (by kernel_rfl) (by kernel_rfl) (fun _ _ _ h => h) (Or.inl ⟨by rfl, ?hy3a⟩) (by assumption) ?rest3a
              case hy3a => (intro w hSw; (try dsimp only at hSw); go_simp <;> (try with_reducible rfl))
              simp only [Act.put]
              refine wpAnyH_take (i := 4) (v := ?v4a) rfl (by kernel_rfl) (by kernel_rfl) (by kernel_rfl) (fun _ _ _ h => h) (Or.inl ⟨by rfl, ?hy4a⟩) (by assumption) ?rest4a
              case hy4a => (intro w hSw; (try dsimp only at hSw); go_simp <;> (try with_reducible rfl))
              simp only [Act.put]
              refine wpAnyH_take (i := 5) (v := ?v5a) rfl (by kernel_rfl) (by kernel_rfl) (by kernel_rfl) (fun _ _ _ h => h) (Or.inl ⟨by rfl, ?hy5a⟩) (by assumption) ?rest5a
              case hy5a => (intro w hSw; (try dsimp only at hSw); go_simp <;> (try with_reducible rfl))
              simp only [Act.put]
              refine wpAnyH_take (i := 6) (v := ?v6a) rfl (by kernel_rfl) (by kernel_rfl) (by kernel_rfl) (fun _ _ _ h => h) (Or.inl ⟨by rfl, ?hy6a⟩) (by assumption) ?rest6a
              case hy6a => (intro w hSw; (try dsimp only at hSw); go_simp <;> (try with_reducible rfl))
              simp only [Act.put]
              refine wpAnyH_take (i := 7) (v := ?v7a) rfl (by kernel_rfl) (by kernel_rfl) (by kernel_rfl) (fun _ _ _ h => h) (Or.inl ⟨by rfl, ?hy7a⟩) (by assumption) ?rest7a
              case hy7a => (intro w hSw; (try dsimp only at hSw); go_simp <;> (try with_reducible rfl))
              simp only [Act.put]
              refine wpAnyH_take (i := 8) (v := ?v8a) rfl (by kernel_rfl) (by kernel_rfl) (by kernel_rfl) (fun _ _ _ h => h) (Or.inl ⟨by rfl, ?hy8a⟩) (by assumption) ?rest8a
              case hy8a => (intro w hSw; (try dsimp only at hSw); go_simp <;> (try with_reducible rfl))
              simp only [Act.put]
              refine wpAnyH_take (i := 9) (v := ?v9a) rfl (by kernel_rfl) (by kernel_rfl) (by kernel_rfl) (fun _ _ _ h => h) (Or.inl ⟨by rfl, ?hy9a⟩) (by assumption) ?rest9a
              case hy9a => (intro w hSw; (try dsimp only at hSw); go_simp <;> (try with_reducible rfl))
              simp only [Act.put]
              refine wpAnyH_take (i := 10) (v := ?v10a) rfl (by kernel_rfl) (by kernel_rfl) (by kernel_rfl) (fun _ _ _ h => h) (Or.inl ⟨by rfl, ?hy10a⟩) (by assumption) ?rest10a
              case hy10a => (intro w hSw; (try dsimp only at hSw); go_simp <;> (try with_reducible rfl))
              simp only [Act.put]
              refine wpAnyH_take (i := 11) (v := ?v11a) rfl (by kernel_rfl) (by kernel_rfl) (by kernel_rfl) (fun _ _ _ h => h) (Or.inl ⟨by rfl, ?hy11a⟩) (by assumption) ?rest11a
              case hy11a => (intro w hSw; (try dsimp only at hSw); go_simp <;> (try with_reducible rfl))
              simp only [Act.put]
              refine wpAnyH_take (i := 14) (v := ?v14a) rfl (by kernel_rfl) (by kernel_rfl) (by kernel_rfl) (fun _ _ _ h => h) (Or.inl ⟨by rfl, ?hy14a⟩) (by assumption) ?rest14a
              case hy14a => (intro w hSw; (try dsimp only at hSw); go_simp <;> (try with_reducible rfl))
              simp only [Act.put]
              refine wpAnyH_take (i := 15) (v := ?v15a) rfl (by kernel_rfl) (by kernel_rfl) (by kernel_rfl) (fun _ _ _ h => h) (Or.inl ⟨by rfl, ?hy15a⟩) (by assumption) ?rest15a
              case hy15a => (intro w hSw; (try dsimp only at hSw); go_simp <;> (try with_reducible rfl))
              simp only [Act.put]
              refine wpAnyH_take (i := 16) (v := ?v16a) rfl (by kernel_rfl) (by kernel_rfl) (by kernel_rfl) (fun _ _ _ h => h) (Or.inl ⟨by rfl, ?hy16a⟩) (by assumption) ?rest16a
              case hy16a => (intro w hSw; (try dsimp only at hSw); go_simp <;> (try with_reducible rfl))
              simp only [Act.put]
              refine wpAnyH_take (i := 17) (v := ?v17a) rfl (by kernel_rfl) (by kernel_rfl) (by kernel_rfl) (fun _ _ _ h => h) (Or.inl ⟨by rfl, ?hy17a⟩) (by assumption) ?rest17a
              case hy17a => (intro w hSw; (try dsimp only at hSw); go_simp <;> (try with_reducible rfl))
              simp only [Act.put]
              refine wpAnyH_take (i := 18) (v := ?v18a) rfl (by kernel_rfl) (by kernel_rfl) (by kernel_rfl) (fun _ _ _ h => h) (Or.inl ⟨by rfl, ?hy18a⟩) (by assumption) ?rest18a
              case hy18a => (intro w hSw; (try dsimp only at hSw); go_simp <;> (try with_reducible rfl))
              simp only [Act.put]
              refine wpAnyH_take (i := 19) (v := ?v19a) rfl (by kernel_rfl) (by kernel_rfl) (by kernel_rfl) (fun _ _ _ h => h) (Or.inl ⟨by rfl, ?hy19a⟩) (by assumption) ?rest19a
              case hy19a => (intro w hSw; (try dsimp only at hSw); go_simp <;> (try with_reducible rfl))
              simp only [Act.put]
              refine wpAnyH_take (i := 20) (v := ?v20a) rfl (by kernel_rfl) (by kernel_rfl) (by kernel_rfl) (fun _ _ _ h => h) (Or.inl ⟨by rfl, ?hy20a⟩) (by assumption) ?rest20a
              case hy20a => (intro w hSw; (try dsimp only at hSw); go_simp <;> (try with_reducible rfl))
              simp only [Act.put]
              refine wpAnyH_take (i := 21) (v := ?v21a) rfl (by kernel_rfl) (by kernel_rfl) (by kernel_rfl) (fun _ _ _ h => h) (Or.inl ⟨by rfl, ?hy21a⟩) (by assumption) ?rest21a
              case hy21a => (intro w hSw; (try dsimp only at hSw); go_simp <;> (try with_reducible rfl))
              simp only [Act.put]
              refine wpAnyH_take (i := 22) (v := ?v22a) rfl (by kernel_rfl) (by kernel_rfl) (by kernel_rfl) (fun _ _ _ h => h) (Or.inl ⟨by rfl, ?hy22a⟩) (by assumption) ?rest22a
              case hy22a => (intro w hSw; (try dsimp only at hSw); go_simp <;> (try with_reducible rfl))
              simp only [Act.put]
              refine wpAnyH_take (i := 23) (v := ?v23a) rfl (by kernel_rfl) (by kernel_rfl) (by kernel_rfl) (fun _ _ _ h => h) (Or.inl ⟨by rfl, ?hy23a⟩) (by assumption) ?rest23a
              case hy23a => (intro w hSw; (try dsimp only at hSw); go_simp <;> (try with_reducible rfl))
              simp only [Act.put]
              refine wpAnyH_take (i := 24) (v := ?v24a) rfl (by kernel_rfl) (by kernel_rfl) (by kernel_rfl) (fun _ _ _ h => h) (Or.inl ⟨by rfl, ?hy24a⟩) (by assumption) ?rest24a
              case hy24a => (intro w hSw; (try dsimp only at hSw); go_simp <;> (try with_reducible rfl))
              simp only [Act.put]
              refine wpAnyH_ready (rs := [12]) (by kernel_rfl) (by simp) ?_
              refine AllReadyH.cons rfl (fun K hK => ?_) AllReadyH.nil
              go_simp
              refine (HSA.out _ (below_chain HBW.out hcur)).mono ?_
              rintro e w4 ⟨rfl, hw4⟩
              rw [hw4]
              clear hw4 w4
              go_wp2_with fail
              refine hK.out _ _ ?_ (fun hHeld => ?_)
              · exact HKS.out _ hcur
              clear hK K
              refine wpAnyH_ready (rs := [13]) (by kernel_rfl) (by simp) ?_
              refine AllReadyH.cons rfl (fun K hK => ?_) AllReadyH.nil
              go_simp
              refine (HRA.out _).mono ?_
              rintro e y1 ⟨r1, rfl, hr1, hb1⟩
              have hcur := below_chain hcur hb1
              have HX1 := Hid.mk' hr1
              obtain ⟨t1, p1, m1, q1, p1', m1', q1', hr1e⟩ := hr1.sl2
              subst hr1e
              clear hr1
              go_wp2_with fail
              refine hK.out _ _ ?_ (fun hHeld => ?_)
              · exact HKS.out _ hcur
              clear hK K
              refine wpAnyH_ready (rs := [25]) (by kernel_rfl) (by simp) ?_
              refine AllReadyH.cons rfl (fun K hK => ?_) AllReadyH.nil
              go_simp
              refine (HSB.out _ (below_chain HBW.out hcur)).mono ?_
              rintro e w4 ⟨rfl, hw4⟩
              rw [hw4]
              clear hw4 w4
              go_wp2_with fail
              refine hK.out _ _ ?_ (fun hHeld => ?_)
              · exact HKS.out _ hcur
              clear hK K
              refine wpAnyH_ready (rs := [26]) (by kernel_rfl) (by simp) ?_
              refine AllReadyH.cons rfl (fun K hK => ?_) AllReadyH.nil
              go_simp
              refine (HRB.out _).mono ?_
              rintro e y2 ⟨r2, rfl, hr2, hb2⟩
              have hcur := below_chain hcur hb2
              have HX2 := Hid.mk' hr2
              obtain ⟨t2, p2, m2, q2, p2', m2', q2', hr2e⟩ := hr2.sl2
              subst hr2e
              clear hr2
              have HX1 := Hid.mk' (HX1.out.later hb2)
              go_wp2_with fail
              refine hK.out _ _ ?_ (fun hHeld => ?_)
              · exact HKS.out _ hcur
              clear hK K
              refine wpAnyH_ready (rs := [27]) (by kernel_rfl) (by simp) ?_
              refine AllReadyH.cons rfl (fun K hK => ?_) AllReadyH.nil
              go_simp
              refine (Times_low2 _ _ aj A bk sj _ HX1.out HX2.out hSA hs2 (by omega) (by omega) (by omega) (by omega)).mono ?_
              rintro e y3 ⟨tu, tq, rfl, htu, htq, hb3⟩
              rw [HLP.out] at htu htq
              obtain ⟨tua, tul, tuc, rfl, _⟩ := htu.len
              obtain ⟨tqa, tql, tqc, rfl, _⟩ := htq.len
              have hcur := below_chain hcur hb3
              have HTU := Hid.mk' htu
              have HTQ := Hid.mk' htq
              clear htu htq
              go_wp2_with fail
              refine hK.out _ _ ?_ (fun hHeld => ?_)
              · exact HKS.out _ hcur
              clear hK K
              refine wpAnyH_ready (rs := [28]) (by kernel_rfl) (by simp) ?_
              refine AllReadyH.cons rfl (fun K hK => ?_) AllReadyH.nil
              go_simp
              refine (Plus_lowP _ _ _ _ xj vt (bhD R C za zb i) _ (HU1.out.later hcur) (HU2.out.later hcur) HTU.out HTQ.out HDP.out (Nat.le_trans (Nat.le_add_right _ _) HXL.out) (Nat.le_trans (Nat.le_add_left _ _) HXL.out) HDL.out).mono ?_
              rintro e y4 ⟨na1, nl1, nc1, na2, nl2, nc2, rfl, hn1, hn2, hb4⟩
              have hcur := below_chain hcur hb4
              obtain ⟨⟨k0, k1, k2⟩, _⟩ := HKS.out _ hcur
              have HG4 := Hid.mk' (HG.out.later hcur)
              have fz0 := HG4.out.f0
              have fz1 := HG4.out.f1
              have fz2 := HG4.out.f2
              obtain ⟨⟨g0, g1⟩, ⟨g2, g3⟩, g4⟩ := put_threeB (.bool false) (.slice na1 nl1 nc1) (.slice na2 nl2 nc2) k0 k1 k2
              have HSET := Hid.mk' (gBox_put (W0 := wk) (B := w3.heap.size) HG4.out.below HG4.out.hB fz0 fz1 fz2 k0 k1 k2 hn1 hn2)
              clear hn1 hn2
              go_wp2_with fail
              refine hK.out _ _ ?_ (fun hHeld => ?_)
              · exact HKS.out _ hcur
              clear hK K
              refine wpAnyH_done (by kernel_rfl) ?_ _
              refine ahead_last rfl (fun K hK => ?_)
              go_simp
              refine hK _ _ ?_
              clear hK K
              generalize ((y4.setCell ⟨w3.heap.size, 0, none⟩ (.bool false)).setCell ⟨w3.heap.size, 1, none⟩ (.slice na1 nl1 nc1)).setCell ⟨w3.heap.size, 2, none⟩ (.slice na2 nl2 nc2) = W9 at *
              clear HX1 HX2 hHeld g0 g1 g2 g3 g4 k0 k1 k2 fz0 fz1 fz2 hcur HKS HG4
              go_wp2_with fail
              rw [← HXN.out] at HSET
              exact ⟨⟨j + 1, h3, by go_num, HSET⟩, by simp [intOf]; omega⟩
            · obtain rfl : j = R := by omega
              obtain ⟨bd1, bm1, bp1, bd2, bm2, bp2, x0, x1, x2, hx1, hx2⟩ := HG.out.box
              have hal : Below wr.heap.size wr (wr.alloc (.cells #[.bool false, .slice bd1 bm1 bp1, .slice bd2 bm2 bp2] 43)) := (Below.refl _ _).alloc (Nat.le_refl _) _
              have HU1 : Hid (BigAt (wr.alloc (.cells #[.bool false, .slice bd1 bm1 bp1, .slice bd2 bm2 bp2] 43)) (.slice bd1 bm1 bp1) (lowP (bhX j C za zb i k) (bhD j C za zb i)).1) := hx1.later hal
              have HU2 : Hid (BigAt (wr.alloc (.cells #[.bool false, .slice bd1 bm1 bp1, .slice bd2 bm2 bp2] 43)) (.slice bd2 bm2 bp2) (lowP (bhX j C za zb i k) (bhD j C za zb i)).2) := hx2.later hal
              have HOA := Hid.mk' ((HO.out.later HG.out.below).later hal)
              have HBA := Hid.mk' (below_chain (below_chain HBI.out HG.out.below) hal)
              have HLE : Hid ((frcL (bhX j C za zb i) (bhD j C za zb i) k).length ≤ 1000) := by show _ ≤ _; rw [frcL_length]; omega
              have HSN := Hid.mk' (frcL_snoc (bhX j C za zb i) (bhD j C za zb i) k)
              clear hx1 hx2 hal HO
              generalize lowP (bhX j C za zb i k) (bhD j C za zb i) = pk at *
              go_wp2_with (at_builtin; go_must (refine wpList_append_clean _ rfl _ _ _ rfl wi.heap.size 43 i0 _ 3 56 Tryz.underlying38 HINF.out rfl (by omega) u8 _ _ rfl HOA.out.own ⟨wr.heap.size, 0, none⟩ 1 1 [.bool false, .slice bd1 bm1 bp1, .slice bd2 bm2 bp2] rfl rfl (three_newR _ _ _ _ _) (by simp [Value.oneCell']) (by omega) (by have := HLE.out; omega) (by omega) HBA.out.size HZN.out (by intro u hu x e; subst e; simp at hu) HOA.out.clean ?_; intro g5 cap5 w5 hown5 hgrow5 hclean5; have HO5 := Hid.mk' (HOA.out.push HU1.out HU2.out rfl rfl hown5 hgrow5 hclean5); have HB5 := Hid.mk' (HBA.out.grown hgrow5 HBA.out.size (fun b hb => (HOA.out.own.lt b hb).1)); clear hown5 hgrow5 hclean5))
              rw [← HSN.out] at HO5
              exact ⟨⟨k + 1, _, h2, by go_num, HO5, HB5⟩, by simp [intOf]; omega⟩
        · obtain rfl : k = C := by omega
          have HLD : Hid (∀ m, lcmP ((bhL R k za zb i).take m) ≤ bhD R k za zb i) := fun m => frac_lcm_le HDP.out m
          have HPB : Hid (∀ p, p ∈ bhL R k za zb i → 0 < p.2 ∧ p.2 ≤ 2 ^ 136 ∧ p.1 ≤ 2 ^ 136) := fun p hp => by
            obtain ⟨m, hm, rfl⟩ := frcL_mem hp
            have h5 : bhX R k za zb i m ≤ sumW (bhX R k za zb i) k := sumW_ge hm
            rw [HOK.out.sum] at h5
            exact ⟨(lowP_low HDP.out).1, Nat.le_trans (lowP_le _ _).2 HDM.out, Nat.le_trans (lowP_le _ _).1 (Nat.le_trans h5 HDM.out)⟩
          have HWL : Hid (∀ p, p ∈ bhL R k za zb i → wholeP (lcmP (bhL R k za zb i)) p ≤ lcmP (bhL R k za zb i)) := fun p hp => frac_whole_le HDP.out (HOK.out.sum i) hp
          have HLT : Hid (lcmP (bhL R k za zb i) ≤ 2 ^ 136) := by
            have h5 := HLD.out (bhL R k za zb i).length
            rw [List.take_length] at h5
            exact Nat.le_trans h5 HDM.out
          have hlen : (bhL R k za zb i).length = k := frcL_length _ _ _
          have hW := Whole_gen u8 (bhL R k za zb i) 256 wr 24 (2 ^ 136) (by decide) HO.out.at HPB.out (by rw [hlen]; omega) (by decide) (frac_gcd HDP.out (HOK.out.sum i)) (fun m => Nat.lt_of_le_of_lt (Nat.le_trans (HLD.out m) HDM.out) (by decide)) (by decide) (fun p hp => Nat.lt_of_le_of_lt (Nat.le_trans (HWL.out p hp) HLT.out) (by decide))
          have HWR := Hid.mk' (whL_row R k za zb i (bhZ R k za zb) (HBZ.out i))
          have HSUM : Hid (sumN (bhZ R k za zb i) k = (lcmP (bhL R k za zb i) : Int)) := by
            have h5 : (sumN (bhZ R k za zb i) k).toNat = sumW (fun m => (bhZ R k za zb i m).toNat) k := sumN_toNat fun m _ => by rw [HBZ.out]; exact Int.natCast_nonneg _
            have h6 : sumW (fun m => (bhZ R k za zb i m).toNat) k = lcmP (bhL R k za zb i) := by
              have h7 := frac_sum HDP.out (HOK.out.sum i)
              rw [sumP_frc] at h7
              refine Eq.trans (sumW_congr fun m _ => ?_) h7
              rw [HBZ.out, Int.toNat_natCast]
              rfl
            have h8 : 0 ≤ sumN (bhZ R k za zb i) k := sumN_nonneg fun m _ => by rw [HBZ.out]; exact Int.natCast_nonneg _
            show _ = _
            omega
          have HNN : Hid (∀ m, 0 ≤ bhZ R k za zb i m) := fun m => by rw [HBZ.out]; exact Int.natCast_nonneg _
          have HZ2 : Hid ((∀ p, p ∈ bhL R k za zb i → wholeP (lcmP (bhL R k za zb i)) p ≤ 256) → ∀ m, m < k → bhZ R k za zb i m ≤ 256) := fun hall m hm => by
            rw [HBZ.out]
            have := hall _ (List.mem_of_getElem? (frcL_get (X := bhX R k za zb i) (D := bhD R k za zb i) hm))
            exact Int.ofNat_le.mpr this
          rw [HWR.out, hlen] at hW
          go_wp2_with fail
          refine hW.mono ?_
          clear hW
          rintro e w5 ⟨hok5, hbad5, hb5⟩
          have HB5 := Hid.mk' (below_chain HBI.out hb5)
          clear hb5
          have HSM : Hid ((∀ p, p ∈ bhL R k za zb i → wholeP (lcmP (bhL R k za zb i)) p ≤ 256) → ∀ (g cap : Nat) (W : World), RowAt W g 0 k (bhZ R k za zb i) → Calls Tryz.prog 17 #[.slice (some ⟨g, 0, none⟩) k cap] W fun e w' => e = .returned (.int .i64 (lcmP (bhL R k za zb i) : Int)) ∧ w' = W) := fun hall g cap W hr => by
            have hp : ∀ m, m ≤ k → 0 ≤ sumN (bhZ R k za zb i) m ∧ sumN (bhZ R k za zb i) m ≤ m * 256 := fun m => by
              induction m with
              | zero => intro _; exact ⟨Int.le_refl _, by simp [sumN]⟩
              | succ m ih =>
                intro hm
                have h6 := ih (by omega)
                have h7 := HZ2.out hall m (by omega)
                have h8 := HNN.out m
                show 0 ≤ sumN (bhZ R k za zb i) m + bhZ R k za zb i m ∧ sumN (bhZ R k za zb i) m + bhZ R k za zb i m ≤ _
                omega
            have h9 := Sum_some g 0 cap k (bhZ R k za zb i) W hr (fun m hm => by have := hp m hm; omega) (fun m hm => by have := HZ2.out hall m hm; have := HNN.out m; omega) (by omega)
            rw [HSUM.out] at h9
            exact h9
          by_cases hall : ∀ p, p ∈ bhL R k za zb i → wholeP (lcmP (bhL R k za zb i)) p ≤ 256
          · obtain ⟨v5, e5, hown5⟩ := hok5 hall
            subst e5
            obtain ⟨g5, cap5, rfl, _, _⟩ := hown5.form hc0
            have hra : RowAt w5 g5 0 k (bhZ R k za zb i) := fun m hm => by
              have h6 := hown5.cells (g := g5) rfl m (.int .i64 (bhZ R k za zb i m)) (by simp [cellL, rowL, hm])
              rw [add_plain] at h6
              exact h6
            have hsum := HSM.out hall g5 cap5 w5 hra
            have HOW := Hid.mk' hown5
            clear hok5 hbad5 hown5 hra
            by_cases hL : lcmP (bhL R k za zb i) ≤ 256
            · have HLN : Hid (∀ j, j < i + 1 → lcmP (bhL R k za zb j) ≤ 256) := fun j hj => by
                rcases Nat.lt_or_ge j i with h5 | h5
                · exact HLL.out j h5
                · obtain rfl : j = i := by omega
                  exact hL
              generalize lcmP (bhL R k za zb i) = L at *
              have hLI : ¬ (256 : Int) < (L : Int) := by omega
              have HLA := Hid.mk' ((HLO.out.later HB5.out).later ((Below.refl _ _).alloc (Nat.le_refl _) (.cells #[.slice (some ⟨g5, 0, none⟩) k cap5] 26)))
              have HBA : Hid (Below w.heap.size w (w5.alloc (.cells #[.slice (some ⟨g5, 0, none⟩) k cap5] 26))) := (below_chain HB.out HB5.out).alloc (below_chain HB.out HB5.out).size _
              have HRA : Hid ((w5.alloc (.cells #[.slice (some ⟨g5, 0, none⟩) k cap5] 26)).ownsRow w.heap.size 3 1 (.slice (some ⟨g5, 0, none⟩) k cap5) (rowL (bhZ R k za zb i) k).length (cellL (rowL (bhZ R k za zb i) k))) := by
                show World.ownsRow _ _ _ _ _ _ _
                rw [rowL_length]
                exact own_lower (HOW.out.alloc _) (below_chain HB.out HBI.out).size
              have HSN := Hid.mk' (tabL_snoc k (bhZ R k za zb) i)
              have HTL : Hid ((tabL i (fun _ => k) (bhZ R k za zb)).length = i) := tabL_length _ _ _
              go_wp2_with fail
              refine hsum.mono ?_
              rintro e w6 ⟨rfl, hw6⟩
              rw [hw6]
              clear hw6 hsum HLO HOW
              go_wp2_with (at_builtin; go_must (refine wpList_append_lies _ rfl _ _ _ rfl w.heap.size 26 i1 _ 1 24 Tryz.underlying22 HINI.out.1 HINI.out.2.1 HINI.out.2.2.1 HINI.out.2.2.2 rfl (by omega) u6 _ _ rfl HLA.out.1 ⟨w5.heap.size, 0, none⟩ 1 1 [.slice (some ⟨g5, 0, none⟩) k cap5] rfl rfl (one_new _ _ _) (by simp [Value.oneCell']) (by omega) (by rw [HTL.out]; unfold maxLen; omega) (by rw [HTL.out]; omega) HBA.out.size _ rfl ?_; intro g8 cap8 w8 hown8 hgrow8 _ _; have HL8 := Hid.mk' (HLA.out.push HRA.out hgrow8 hown8); have HB8 := Hid.mk' (HBA.out.grown hgrow8 HBA.out.size (fun b hb => (HLA.out.1.lt b hb).1)); clear hown8 hgrow8))
              rw [← HSN.out] at HL8
              exact ⟨⟨i + 1, _, h1, by go_num, HL8, HLN, HB8⟩, by simp [intOf]; omega⟩
            · have HNL : Hid (256 < lcmP (bhL R k za zb i)) := by show _ < _; omega
              have HB6 := Hid.mk' (below_chain HB.out HB5.out)
              have hLI : (256 : Int) < (lcmP (bhL R k za zb i) : Int) := by omega
              generalize hLe : lcmP (bhL R k za zb i) = L at hsum hLI
              have HLEQ := Hid.mk' hLe
              clear hL hLe
              go_wp2_with fail
              refine hsum.mono ?_
              rintro e w6 ⟨rfl, hw6⟩
              rw [hw6]
              clear hw6 hsum
              go_wp2_with fail
              go_ret2
              exact ⟨fun h => absurd (h i h1) (by have := HNL.out; omega), fun _ => rfl, HB6.out⟩
          · have hex : ∃ p, p ∈ bhL R k za zb i ∧ 256 < wholeP (lcmP (bhL R k za zb i)) p := Classical.byContradiction fun hn => hall fun p hp => Classical.byContradiction fun hf => hn ⟨p, hp, by omega⟩
            have e5 := hbad5 hex
            subst e5
            have HNL : Hid (256 < lcmP (bhL R k za zb i)) := by
              obtain ⟨p, hp, hlt⟩ := hex
              exact Nat.lt_of_lt_of_le hlt (HWL.out p hp)
            have HB6 := Hid.mk' (below_chain HB.out HB5.out)
            clear hok5 hbad5 hall hex
            go_wp2_with fail
            go_ret2
            exact ⟨fun h => absurd (h i h1) (by have := HNL.out; omega), fun _ => rfl, HB6.out⟩
    · obtain rfl : i = Q := by omega
      have HL9 := Hid.mk' HLO.out.lol
      go_wp2_with fail
      go_ret2
      exact ⟨fun _ => ⟨_, rfl, HL9.out⟩, fun ⟨j, hj, hn⟩ => by have := HLL.out j hj; omega, HB.out⟩
end Go.Proofs.YtnihclkaaglnjaaGreatDoor

/- Right channels: the document's. -/
namespace Go.Proofs.YtnihclkaaglnjaaGreatDoor
open Go.RowKit

theorem sumN_256 {z : Nat → Int} : ∀ {m : Nat}, (∀ i, i < m → z i ≤ 256) → sumN z m ≤ 256 * (m : Int)
  | 0, _ => by simp [sumN]
  | m + 1, h => by
    have h1 := sumN_256 (m := m) fun i hi => h i (by omega)
    have h2 := h m (by omega)
    show sumN z m + z m ≤ _
    omega
structure InRow (z : Nat → Int) (G : Bool) (m : Nat) (y : Int) (sb gb : Bool) : Prop where
  neg : negB z m = false
  some : sb = someB z m
  yes : gb = true → G = true ∨ ∃ i, i < m ∧ 256 < z i
  no : gb = false → G = false ∧ (∀ i, i < m → z i ≤ 256) ∧ y = sumN z m
theorem InRow.step {z : Nat → Int} {G : Bool} {m : Nat} {y : Int} {sb gb : Bool} (h : InRow z G m y sb gb) (h0 : 0 ≤ z m) {x : Int} (hx : x = z m) : InRow z G (m + 1) (if gb = true ∨ 256 < x then y else y + x) (sb || decide (0 < x)) (gb || decide (256 < x)) := by
  subst hx
  refine ⟨?_, ?_, fun e => ?_, fun e => ?_⟩
  · show (negB z m || decide (z m < 0)) = false
    rw [h.neg, Bool.false_or]; exact decide_eq_false (by omega)
  · show _ = (someB z m || decide (0 < z m))
    rw [h.some]
  · rcases Bool.or_eq_true_iff.mp e with e | e
    · rcases h.yes e with h1 | ⟨i, hi, h1⟩
      · exact Or.inl h1
      · exact Or.inr ⟨i, by omega, h1⟩
    · exact Or.inr ⟨m, by omega, of_decide_eq_true e⟩
  · obtain ⟨e1, e2⟩ := Bool.or_eq_false_iff.mp e
    obtain ⟨h1, h2, h3⟩ := h.no e1
    have h4 := of_decide_eq_false e2
    refine ⟨h1, fun i hi => ?_, ?_⟩
    · rcases Nat.lt_or_ge i m with h5 | h5
      · exact h2 i h5
      · obtain rfl : i = m := by omega
        omega
    · rw [if_neg (by rw [e1]; simp; omega), h3]; rfl
theorem InRow.close {ns : Nat → Nat} {zs : Nat → Nat → Int} {k : Nat} {y : Int} {sb gb : Bool} (h : InRow (zs k) (greatC ns zs k) (ns k) y sb gb) : greatC ns zs (k + 1) = (gb || decide (256 < y)) ∨ (gb = true ∧ greatC ns zs (k + 1) = true) := by
  show (greatC ns zs k || decide (256 < sumN (zs k) (ns k))) = _ ∨ (_ ∧ (greatC ns zs k || decide (256 < sumN (zs k) (ns k))) = true)
  cases gb with
  | true =>
    refine Or.inr ⟨rfl, ?_⟩
    rcases h.yes rfl with h1 | ⟨i, hi, h1⟩
    · rw [h1]; rfl
    · have := sumN_ge (not_neg h.neg) hi
      rw [decide_eq_true (by omega)]; simp
  | false =>
    obtain ⟨h1, _, h3⟩ := h.no rfl
    exact Or.inl (by rw [h1, h3])
theorem shape_neg {z : Nat → Int} {n m : Nat} (hm : m < n) (h : z m < 0) : listErr z n = 3 := listErr_neg hm h

set_option maxRecDepth 100000 in
set_option maxHeartbeats 4000000 in
theorem ChannelError_any (v : Value) (n : Nat) (vs : Nat → Value) (ns : Nat → Nat) (zs : Nat → Nat → Int) (w : World) (h : TabAt w v n vs ns zs) (hn : n ≤ 1000000) (hns : ∀ i, i < n → ns i ≤ 1000000) :
    Calls Tryz.prog 6 #[v] w fun e w' => e = .returned (.int .i64 (chanErr n ns zs : Nat)) ∧ Below w.heap.size w w' := by
  by_cases h8 : 16 < n
  · obtain ⟨ad, cap, rfl⟩ := h.form
    have hI : (16 : Int) < (n : Int) := by omega
    have he : chanErr n ns zs = 2 := by unfold chanErr; rw [if_pos h8]
    rw [he]
    clear h hns
    go_enter Tryz.func6, Tryz.ntmps6
    go_wp2_with fail
    go_ret
    exact ⟨rfl, Below.refl _ _⟩
  obtain ⟨ad, cap, rfl⟩ := h.form
  have HT := Hid.mk' h
  have HNS := Hid.mk' hns
  clear h hns
  have hI : ¬ (16 : Int) < (n : Int) := by omega
  have HEL : Hid (longB ns n = true → chanErr n ns zs = 2) := fun hl => by unfold chanErr; rw [if_neg h8, if_pos hl]
  have HEZ : Hid (longB ns n = false → n = 0 → chanErr n ns zs = 3) := fun hl h0 => by unfold chanErr; rw [if_neg h8, hl, if_neg (by simp), if_pos h0]
  have HE : Hid (longB ns n = false → 0 < n → chanErr n ns zs = if shapeB (ns 0) ns zs n = true then 3 else if greatC ns zs n = true then 2 else 0) := fun hl h0 => by unfold chanErr; rw [if_neg h8, hl, if_neg (by simp), if_neg (by omega)]
  have HRW : Hid (∀ k, k < n → ∃ b o, ad = some ⟨b, o, none⟩ ∧ w.cell? ⟨b, o + k, none⟩ = some (vs k) ∧ NumsAt w (vs k) (ns k) (zs k)) := fun k hk => by
    rcases HT.out with ⟨_, _, _, h1⟩ | ⟨b, o, c, h1, _, h2⟩
    · omega
    · simp only [Value.slice.injEq, true_and] at h1
      exact ⟨b, o, h1.1, h2 k hk⟩
  go_enter Tryz.func6, Tryz.ntmps6
  go_wp2_with fail
  go_loop [3] (fun t => ∃ k : Nat, k ≤ n ∧ t = .int .i64 k ∧ Hid (longB ns k = false)) (fun t => n - (intOf t).toNat)
  case atStart => exact ⟨0, Nat.zero_le _, rfl, rfl⟩
  case round =>
    obtain ⟨k, hk, rfl, HS⟩ := hrel
    rcases Nat.lt_or_ge k n with h1 | h1
    · have hkI : (k : Int) < (n : Int) := by omega
      have hk0 : (0 : Int) ≤ (k : Int) := by omega
      obtain ⟨b, o, rfl, hc, hnum⟩ := HRW.out k h1
      obtain ⟨rad, rcap, hre⟩ := hnum.form
      rw [hre] at hc
      have hnk := HNS.out k h1
      have HX : Hid (16 < ns k → chanErr n ns zs = 2) := fun hl => HEL.out (longB_mono h1 hl)
      have HL : Hid (longB ns (k + 1) = decide (16 < ns k)) := by show (longB ns k || _) = _; rw [HS.out, Bool.false_or]
      clear hre hnum
      generalize ns k = nk at hc hnk HX HL
      rcases Nat.lt_or_ge 16 nk with h5 | h5
      · have h5I : (16 : Int) < (nk : Int) := by omega
        have HX' := Hid.mk' (HX.out h5)
        go_wp2_with fail
        go_ret
        exact ⟨ret_int (by rw [HX'.out]; rfl), Below.refl _ _⟩
      · have h5I : ¬ (16 : Int) < (nk : Int) := by omega
        have HL' : Hid (longB ns (k + 1) = false) := by show _ = _; rw [HL.out]; exact decide_eq_false (by omega)
        go_wp2_with fail
        exact ⟨⟨k + 1, h1, by go_num, HL'⟩, by simp [intOf]; omega⟩
    · obtain rfl : n = k := by omega
      rcases Nat.eq_zero_or_pos n with h0 | h0
      · have HX := Hid.mk' (HEZ.out HS.out h0)
        subst h0
        go_wp2_with fail
        go_ret
        exact ⟨ret_int (by rw [HX.out]; rfl), Below.refl _ _⟩
      have hz : ((n : Int) == 0) = false := by rw [beq_eq_false_iff_ne]; omega
      have HE' := Hid.mk' (HE.out HS.out h0)
      have HLN := Hid.mk' (not_long HS.out)
      obtain ⟨b, o, rfl, hc0, hnum0⟩ := HRW.out 0 h0
      obtain ⟨rad0, rcap0, hre0⟩ := hnum0.form
      rw [hre0, Nat.add_zero] at hc0
      have HC0 := Hid.mk' hc0
      have hn0 := HLN.out 0 h0
      clear hre0 hnum0 hc0
      go_wp2_with fail
      go_loopw [4, 5] (fun g i wr => ∃ k : Nat, k ≤ n ∧ g = .bool (greatC ns zs k) ∧ i = .int .i64 k ∧ Hid (shapeB (ns 0) ns zs k = false) ∧ Hid (Below w.heap.size w wr)) (fun _ i _ => n - (intOf i).toNat)
      case atStart => exact ⟨0, Nat.zero_le _, rfl, rfl, rfl, Below.refl _ _⟩
      case round =>
        obtain ⟨k, hk, rfl, rfl, HS, HB⟩ := hrel
        rcases Nat.lt_or_ge k n with h1 | h1
        · have hkI : (k : Int) < (n : Int) := by omega
          have hk0 : (0 : Int) ≤ (k : Int) := by omega
          obtain ⟨b', o', hbo, hcw, hnum⟩ := HRW.out k h1
          simp only [Option.some.injEq, Addr.mk.injEq, and_true] at hbo
          obtain ⟨rfl, rfl⟩ := hbo
          obtain ⟨rad, rcap, hre⟩ := hnum.form
          rw [hre] at hcw hnum
          have HN := Hid.mk' hnum
          have HCK : Hid (∀ W, Below w.heap.size w W → W.cell? ⟨b, o + k, none⟩ = some (.slice rad (ns k) rcap)) := fun W hb => by rw [hb.cell (cell_lt hcw)]; exact hcw
          have hc := HCK.out wr HB.out
          have hcd := HCK.out wr.drew HB.out.drew
          have hc0 : wr.cell? ⟨b, o, none⟩ = some (.slice rad0 (ns 0) rcap0) := by rw [HB.out.cell (cell_lt HC0.out)]; exact HC0.out
          have hc0d : wr.drew.cell? ⟨b, o, none⟩ = some (.slice rad0 (ns 0) rcap0) := by rw [HB.out.drew.cell (cell_lt HC0.out)]; exact HC0.out
          have hnk := HLN.out k h1
          have HSB : Hid (ns k ≠ ns 0 ∨ listErr (zs k) (ns k) = 3 → chanErr n ns zs = 3) := fun hb => by rw [HE'.out, if_pos (shapeB_at h1 hb)]
          clear hre hnum hcw
          by_cases hsh : ns k = ns 0
          · have HS' : Hid (listErr (zs k) (ns k) ≠ 3 → shapeB (ns 0) ns zs (k + 1) = false) := fun h5 => by rw [shapeB, HS.out, decide_eq_false (by rw [hsh] at h5 ⊢; omega)]; rfl
            have HSH := Hid.mk' hsh
            rw [hsh] at hc hcd
            have hnn : ((ns 0 : Int) != (ns 0 : Int)) = false := by simp
            clear hsh
            go_wp2_with fail
            go_region
            all_goals
              have HBd := Hid.mk' HB.out.drew
              clear hc0 hc0d hc
              generalize wr.drew = W at *
              go_wp2_with fail
              go_loop [4, 6, 7, 8] (fun g s u i => ∃ (m : Nat) (y : Int) (sb gb : Bool), m ≤ ns k ∧ g = .bool gb ∧ s = .bool sb ∧ u = .int .i64 y ∧ i = .int .i64 m ∧ Hid (InRow (zs k) (greatC ns zs k) m y sb gb)) (fun _ _ _ i => ns k - (intOf i).toNat)
              case atStart => exact ⟨0, 0, false, greatC ns zs k, Nat.zero_le _, rfl, rfl, rfl, rfl, ⟨rfl, rfl, fun e => Or.inl e, fun e => ⟨e, fun i hi => by omega, rfl⟩⟩⟩
              case round =>
                obtain ⟨m, y, sb, gb, hm, rfl, rfl, rfl, rfl, HI⟩ := hrel
                have hns0 : ns 0 = ns k := HSH.out.symm
                rcases Nat.lt_or_ge m (ns k) with h2 | h2
                · have hmI : (m : Int) < (ns 0 : Int) := by omega
                  have hm0 : (0 : Int) ≤ (m : Int) := by omega
                  obtain ⟨rb, ro, rfl, hrow⟩ : ∃ rb ro, rad = some ⟨rb, ro, none⟩ ∧ RowAt w rb ro (ns k) (zs k) := by
                    rcases HN.out with ⟨_, _, _, h6⟩ | ⟨rb, ro, c, h6, _, h7⟩
                    · omega
                    · simp only [Value.slice.injEq, true_and] at h6
                      exact ⟨rb, ro, h6.1, h7⟩
                  have hx := hrow m h2
                  have hxc : W.cell? ⟨rb, ro + m, none⟩ = some (.int .i64 (zs k m)) := by rw [HBd.out.cell (cell_lt hx)]; exact hx
                  clear hrow hx hns0
                  rcases Int.lt_or_le (zs k m) 0 with hz | hz
                  · have HL := Hid.mk' (HSB.out (Or.inr (listErr_neg h2 hz)))
                    generalize zs k m = x at hxc hz
                    go_wp2_with fail
                    go_ret
                    exact ⟨ret_int (by rw [HL.out]; rfl), HBd.out⟩
                  · have HI' := Hid.mk' (HI.out.step hz rfl)
                    have hy : gb = false → 0 ≤ y ∧ y ≤ 4096 := fun e => by
                      obtain ⟨_, h4, h5⟩ := HI.out.no e
                      have h6 := sumN_256 h4
                      have h7 := sumN_nonneg (not_neg HI.out.neg)
                      rw [h5]
                      omega
                    generalize zs k m = x at hxc hz HI'
                    cases gb with
                    | true =>
                      clear hy
                      rw [if_pos (Or.inl rfl)] at HI'
                      cases sb with
                      | true =>
                        go_wp2_with fail
                        exact ⟨⟨m + 1, _, _, _, h2, rfl, rfl, rfl, by go_num, HI'⟩, by simp [intOf]; omega⟩
                      | false =>
                        go_wp2_with fail
                        exact ⟨⟨m + 1, _, _, _, h2, rfl, rfl, rfl, by go_num, HI'⟩, by simp [intOf]; omega⟩
                    | false =>
                      obtain ⟨hy0, hy1⟩ := hy rfl
                      by_cases hg : 256 < x
                      · rw [if_pos (Or.inr hg), decide_eq_true hg] at HI'
                        cases sb with
                        | true =>
                          go_wp2_with fail
                          exact ⟨⟨m + 1, _, _, _, h2, rfl, rfl, rfl, by go_num, HI'⟩, by simp [intOf]; omega⟩
                        | false =>
                          go_wp2_with fail
                          exact ⟨⟨m + 1, _, _, _, h2, rfl, rfl, rfl, by go_num, HI'⟩, by simp [intOf]; omega⟩
                      · have hgd : decide (256 < x) = false := decide_eq_false hg
                        rw [if_neg (by simp; omega), hgd] at HI'
                        cases sb with
                        | true =>
                          go_wp2_with fail
                          exact ⟨⟨m + 1, _, _, _, h2, rfl, rfl, rfl, by go_num, HI'⟩, by simp [intOf]; omega⟩
                        | false =>
                          go_wp2_with fail
                          exact ⟨⟨m + 1, _, _, _, h2, rfl, rfl, rfl, by go_num, HI'⟩, by simp [intOf]; omega⟩
                · obtain rfl : m = ns k := by omega
                  have hmI : ¬ ((ns k : Nat) : Int) < (ns 0 : Int) := by omega
                  clear hns0
                  cases sb with
                  | false =>
                    have HL := Hid.mk' (HSB.out (Or.inr (listErr_none HI.out.some.symm)))
                    go_wp2_with fail
                    go_ret
                    exact ⟨ret_int (by rw [HL.out]; rfl), HBd.out⟩
                  | true =>
                    have HS2 : Hid (shapeB (ns 0) ns zs (k + 1) = false) := HS'.out (fun h5 => by
                      unfold listErr at h5
                      rw [HI.out.neg, ← HI.out.some, if_neg (by simp)] at h5
                      split at h5 <;> cases h5)
                    have HC := Hid.mk' HI.out.close
                    cases gb with
                    | true =>
                      have HG : Hid (greatC ns zs (k + 1) = true) := by
                        rcases HC.out with e | ⟨_, e⟩
                        · rw [Bool.true_or] at e; exact e
                        · exact e
                      go_wp2_with fail
                      exact ⟨⟨k + 1, h1, by rw [HG.out], by go_num, HS2, HBd⟩, by simp [intOf]; omega⟩
                    | false =>
                      have HG : Hid (greatC ns zs (k + 1) = decide (256 < y)) := by
                        rcases HC.out with e | ⟨e, _⟩
                        · rw [Bool.false_or] at e; exact e
                        · cases e
                      go_wp2_with fail
                      exact ⟨⟨k + 1, h1, by rw [HG.out], by go_num, HS2, HBd⟩, by simp [intOf]; omega⟩
          · have hne : ((ns k : Int) != (ns 0 : Int)) = true := by rw [bne_iff_ne]; omega
            have HV := Hid.mk' (HSB.out (Or.inl hsh))
            clear hsh
            go_wp2_with fail
            go_region
            all_goals
              go_wp2_with fail
              go_ret
              exact ⟨ret_int (by rw [HV.out]; rfl), HB.out.drew⟩
        · obtain rfl : n = k := by omega
          have HV : Hid (chanErr n ns zs = if greatC ns zs n = true then 2 else 0) := by show _ = _; rw [HE'.out, HS.out, if_neg (by simp)]
          cases hg : greatC ns zs n with
          | true =>
            rw [hg, if_pos rfl] at HV
            go_wp2_with fail
            go_ret
            exact ⟨ret_int (by rw [HV.out]; rfl), HB.out⟩
          | false =>
            rw [hg, if_neg (by simp)] at HV
            go_wp2_with fail
            go_ret
            exact ⟨ret_int (by rw [HV.out]; rfl), HB.out⟩
end Go.Proofs.YtnihclkaaglnjaaGreatDoor

/- What the law ChannelBehind stands on. -/
namespace Go.Proofs.YtnihclkaaglnjaaGreatDoor
open Go.RowKit

theorem rowB_le {R : Nat} {ns : Nat → Nat} (h : sumT ns R ≤ 400) (i : Nat) (hi : i < R) : ns i ≤ 400 := by
  have h2 : sumT ns i + ns i ≤ sumT ns R := sumT_mono ns hi
  omega
theorem lolB_nil (w : World) : LolAt w (.slice none 0 0) [] := ⟨none, 0, rfl, fun i r hr => by simp at hr⟩
theorem LolAt.formB {w : World} {v : Value} {L : List (List Int)} (h : LolAt w v L) : ∃ ad cap, v = .slice ad L.length cap := by
  obtain ⟨ad, cap, e, _⟩ := h
  exact ⟨ad, cap, e⟩
set_option maxRecDepth 100000 in
theorem Behind_a (a : Nat → Addr) (u : Value) (Q : Nat) (va : Nat → Value) (na : Nat → Nat) (za : Nat → Nat → Int) (vad : Option Addr) (vn vcap : Nat) (w : World) (hE : Errs w a) (hu : TabAt w u Q va na za) (hQ : Q ≤ 40) (hna : ∀ i, i < Q → na i ≤ 400) (he : chanErr Q na za ≠ 0) :
    Calls Tryz.prog 8 #[u, .slice vad vn vcap] w fun e w' => e = .returned (.tuple #[.slice none 0 0, errV a (chanErr Q na za)]) ∧ w' = w := by
  have hV := chanValid_any a u Q va na za w hE hu (by omega) (fun i hi => by have := hna i hi; omega)
  obtain ⟨ad', cap', rfl⟩ := hu.form
  rw [errV_pos a he] at hV ⊢
  generalize a (chanErr Q na za - 1) = pa at *
  clear hu hE hna
  go_enter Tryz.func8, Tryz.ntmps8
  go_wp2_with fail
  refine hV.mono ?_
  clear hV
  rintro e w2 ⟨rfl, hw2⟩
  rw [hw2]
  clear hw2
  go_wp2_with fail
  go_ret2
  exact ⟨rfl, rfl⟩
set_option maxRecDepth 100000 in
theorem Behind_b (a : Nat → Addr) (u : Value) (Q : Nat) (va : Nat → Value) (na : Nat → Nat) (za : Nat → Nat → Int) (v : Value) (R : Nat) (vb : Nat → Value) (nb : Nat → Nat) (zb : Nat → Nat → Int) (w : World) (hE : Errs w a) (hu : TabAt w u Q va na za) (h : TabAt w v R vb nb zb) (hQ : Q ≤ 40) (hna : ∀ i, i < Q → na i ≤ 400) (hR : R ≤ 40) (hnb : ∀ i, i < R → nb i ≤ 400) (he : chanErr Q na za = 0) (he2 : chanErr R nb zb ≠ 0) :
    Calls Tryz.prog 8 #[u, v] w fun e w' => e = .returned (.tuple #[.slice none 0 0, errV a (chanErr R nb zb)]) ∧ w' = w := by
  have hV := chanValid_any a u Q va na za w hE hu (by omega) (fun i hi => by have := hna i hi; omega)
  have hW := chanValid_any a v R vb nb zb w hE h (by omega) (fun i hi => by have := hnb i hi; omega)
  obtain ⟨ad', cap', rfl⟩ := hu.form
  obtain ⟨ad, cap, rfl⟩ := h.form
  rw [he, errV_zero] at hV
  rw [errV_pos a he2] at hW ⊢
  generalize a (chanErr R nb zb - 1) = pa at *
  clear hu hE hna h hnb he
  go_enter Tryz.func8, Tryz.ntmps8
  go_wp2_with fail
  refine hV.mono ?_
  clear hV
  rintro e w2 ⟨rfl, hw2⟩
  rw [hw2]
  clear hw2
  go_wp2_with fail
  refine hW.mono ?_
  clear hW
  rintro e w2 ⟨rfl, hw2⟩
  rw [hw2]
  clear hw2
  go_wp2_with fail
  go_ret2
  exact ⟨rfl, rfl⟩
set_option maxRecDepth 100000 in
theorem Behind_lens (a : Nat → Addr) (u : Value) (Q : Nat) (va : Nat → Value) (na : Nat → Nat) (za : Nat → Nat → Int) (v : Value) (R : Nat) (vb : Nat → Value) (nb : Nat → Nat) (zb : Nat → Nat → Int) (w : World) (hE : Errs w a) (hu : TabAt w u Q va na za) (h : TabAt w v R vb nb zb) (hQ : Q ≤ 40) (hna : ∀ i, i < Q → na i ≤ 400) (hR : R ≤ 40) (hnb : ∀ i, i < R → nb i ≤ 400) (he : chanErr Q na za = 0) (he2 : chanErr R nb zb = 0) (hne : na 0 ≠ R) :
    Calls Tryz.prog 8 #[u, v] w fun e w' => e = .returned (.tuple #[.slice none 0 0, errV a 3]) ∧ Below w.heap.size w w' := by
  have hV := chanValid_any a u Q va na za w hE hu (by omega) (fun i hi => by have := hna i hi; omega)
  have hW := chanValid_any a v R vb nb zb w hE h (by omega) (fun i hi => by have := hnb i hi; omega)
  obtain ⟨q0, _, _, _, _, _, _⟩ := chanErr_ok he
  obtain ⟨ub, uo, ucap, rfl, hc⟩ : ∃ b o cap, u = .slice (some ⟨b, o, none⟩) Q cap ∧ w.cell? ⟨b, o, none⟩ = some (va 0) := by
    rcases hu with ⟨_, _, _, h1⟩ | ⟨b, o, cap, h1, _, h2⟩
    · omega
    · exact ⟨b, o, cap, h1, by have := (h2 0 q0).1; rwa [Nat.add_zero] at this⟩
  have hn0 : ∃ ra rc, va 0 = .slice ra (na 0) rc := by
    rcases hu with ⟨_, _, _, h1⟩ | ⟨b, o, cap, h1, _, h2⟩
    · omega
    · obtain ⟨ra, rc, e⟩ := (h2 0 q0).2.form
      exact ⟨ra, rc, e⟩
  obtain ⟨ra, rc, e0⟩ := hn0
  rw [e0] at hc
  obtain ⟨ad, cap, rfl⟩ := h.form
  rw [he, errV_zero] at hV
  rw [he2, errV_zero] at hW
  rw [errV_three]
  have cS := hE.c2
  have hqI : (0 : Int) < (Q : Int) := by omega
  have hnb0 : ((na 0 : Int) != (R : Int)) = true := by rw [bne_iff_ne]; omega
  have hni : ¬ (na 0 : Int) = (R : Int) := by omega
  clear hu hE hna h hnb he he2 e0
  generalize na 0 = n0 at *
  go_enter Tryz.func8, Tryz.ntmps8
  go_wp2_with fail
  refine hV.mono ?_
  clear hV
  rintro e w2 ⟨rfl, hw2⟩
  rw [hw2]
  clear hw2
  go_wp2_with fail
  refine hW.mono ?_
  clear hW
  rintro e w2 ⟨rfl, hw2⟩
  rw [hw2]
  clear hw2
  go_wp2_with fail
  go_region
  all_goals
    go_wp2_with fail
    go_ret2
    exact ⟨rfl, (Below.refl _ _).drew⟩
end Go.Proofs.YtnihclkaaglnjaaGreatDoor

/- The law ChannelBehind, where the first is no channel. -/
namespace Go.Proofs.YtnihclkaaglnjaaGreatDoor
open Go.RowKit

set_option maxRecDepth 100000 in
set_option maxHeartbeats 4000000 in
theorem bhLaw_a (a : Nat → Addr) (ad : Option Addr) (Q cap : Nat) (va : Nat → Value) (na : Nat → Nat) (za : Nat → Nat → Int) (ad' : Option Addr) (R cap' : Nat) (vb : Nat → Value) (nb : Nat → Nat) (zb : Nat → Nat → Int) (w : World) (hE : Errs w a) (h : TabAt w (.slice ad Q cap) Q va na za) (hm : Q ≤ maxLen) (k : TabAt w (.slice ad' R cap') R vb nb zb) (hm' : R ≤ maxLen) (hs1 : sumT na Q ≤ 2000000) (hs2 : sumT nb R ≤ 2000000) (hf1 : Q ≤ 40) (hf2 : sumT na Q ≤ 400) (hg1 : R ≤ 40) (hg2 : sumT nb R ≤ 400) (he : chanErr Q na za ≠ 0) :
    Calls Tryz.prog 3 #[.slice ad Q cap, .slice ad' R cap'] w fun e w' => e = .returned (.bool true) ∧ Below w.heap.size w w' := by
  have hC := noisy_any a w hE
  have HFA : Hid (∀ W, Below w.heap.size w W → Calls Tryz.prog 5 #[.slice ad Q cap] W fun e w' => e = .returned (.bool true) ∧ Below W.heap.size W w') := fun W hb => few_any _ Q va na za W (h.later hb) hm hs1 true ⟨fun _ => ⟨hf1, hf2⟩, fun _ => rfl⟩
  have HFB : Hid (∀ W, Below w.heap.size w W → Calls Tryz.prog 5 #[.slice ad' R cap'] W fun e w' => e = .returned (.bool true) ∧ Below W.heap.size W w') := fun W hb => few_any _ R vb nb zb W (k.later hb) hm' hs2 true ⟨fun _ => ⟨hg1, hg2⟩, fun _ => rfl⟩
  have HN : Hid (∀ W, Below w.heap.size w W → TabAt W (.slice ad Q cap) Q va na za) := fun W hb => h.later hb
  have HK : Hid (∀ W, Below w.heap.size w W → TabAt W (.slice ad' R cap') R vb nb zb) := fun W hb => k.later hb
  have HE : Hid (∀ W, Below w.heap.size w W → Errs W a) := fun W hb => hE.below hb
  have HD1 : Hid (∀ W, Below w.heap.size w W → Calls Tryz.prog 6 #[.slice ad Q cap] W fun e w' => e = .returned (.int .i64 (chanErr Q na za : Nat)) ∧ Below W.heap.size W w') := fun W hb => ChannelError_any _ Q va na za W (h.later hb) (by omega) (fun i hi => by have := rowB_le hf2 i hi; omega)
  have HD2 : Hid (∀ W, Below w.heap.size w W → Calls Tryz.prog 6 #[.slice ad' R cap'] W fun e w' => e = .returned (.int .i64 (chanErr R nb zb : Nat)) ∧ Below W.heap.size W w') := fun W hb => ChannelError_any _ R vb nb zb W (k.later hb) (by omega) (fun i hi => by have := rowB_le hg2 i hi; omega)
  have HCL := Hid.mk' (chanErr_le Q na za)
  have HBP : Hid (∀ (W : World) (x y : Value) (va' vb' : Nat → Value), Below w.heap.size w W → TabAt W x Q va' na za → TabAt W y R vb' nb zb → Calls Tryz.prog 8 #[x, y] W fun e w' => ∃ t, e = .returned (.tuple #[t, errV a (chanErr Q na za)]) ∧ LolAt w' t [] ∧ Below W.heap.size W w') := fun W x y va' vb' hb hx hy => by
    obtain ⟨ya, yc, rfl⟩ := hy.form
    refine (Behind_a a x Q va' na za ya R yc W (hE.below hb) hx hf1 (rowB_le hf2) he).mono ?_
    rintro e w' ⟨rfl, rfl⟩
    exact ⟨_, rfl, lolB_nil _, Below.refl _ _⟩
  obtain ⟨LL, hLL⟩ : ∃ LL : List (List Int), LL = [] := ⟨_, rfl⟩
  have HLS : Hid (LL.length ≤ 1000000 ∧ ∀ r, r ∈ LL → r.length ≤ 1000) := by rw [hLL]; exact ⟨by simp, fun r hr => by simp at hr⟩
  have HW0 : Hid (∀ W, LolAt W (.slice none 0 0) LL) := fun W => by rw [hLL]; exact lolB_nil W
  rw [← hLL] at HBP
  generalize chanErr Q na za = c at *
  obtain ⟨ec, hec⟩ : ∃ ec, ec = errV a c := ⟨_, rfl⟩
  have HK1 : Hid (∀ W, Below w.heap.size w W → Calls Tryz.prog 10 #[ec, .int .i64 ((c : Nat) : Int)] W fun e w' => e = .returned (.bool true) ∧ Below W.heap.size W w') := fun W hb => by rw [hec]; exact coded_errV a c (by first | decide | (have := HCL.out; omega)) W (HE.out W hb)
  rw [← hec] at HBP
  have hc0 : ((c : Int) == 0) = false := by simp; omega
  have hci : ¬ (c : Int) = 0 := by omega
  clear hE h k hec hLL
  go_enter Tryz.func3, Tryz.ntmps3
  go_wp2_with fail
  refine hC.mono ?_
  rintro e w1 ⟨rfl, hb1⟩
  have HB1 := Hid.mk' hb1
  clear hb1 hC
  go_wp2_with fail
  refine (HFA.out w1 HB1.out).mono ?_
  rintro e w2 ⟨rfl, hb2⟩
  have HB2 := Hid.mk' (below_chain HB1.out hb2)
  clear hb2
  go_wp2_with fail
  refine (HFB.out w2 HB2.out).mono ?_
  rintro e w3 ⟨rfl, hb3⟩
  have HB3 := Hid.mk' (below_chain HB2.out hb3)
  clear hb3
  go_wp2_with fail
  refine (HD1.out w3 HB3.out).mono ?_
  rintro e w4 ⟨rfl, hb4⟩
  have HB4 := Hid.mk' (below_chain HB3.out hb4)
  clear hb4
  have HW4 := Hid.mk' (HW0.out w4)
  go_wp2_with fail
  refine (lists_any _ Q va na za w4 (HN.out _ HB4.out) hf1 hf2).mono ?_
  rintro e w11 ⟨v11, vs11, rfl, hv11, hb11⟩
  obtain ⟨ad11, cap11, rfl⟩ := hv11.form
  have HV11 := Hid.mk' hv11
  have HB11 := Hid.mk' (below_chain HB4.out hb11)
  have HW11 := Hid.mk' (HW4.out.later hb11)
  clear hv11 hb11
  go_wp2_with fail
  refine (lists_any _ R vb nb zb w11 (HK.out _ HB11.out) hg1 hg2).mono ?_
  rintro e w12 ⟨v12, vs12, rfl, hv12, hb12⟩
  obtain ⟨ad12, cap12, rfl⟩ := hv12.form
  have HV12 := Hid.mk' hv12
  have HV112 := Hid.mk' (HV11.out.later hb12)
  have HB12 := Hid.mk' (below_chain HB11.out hb12)
  have HW12 := Hid.mk' (HW11.out.later hb12)
  clear hv12 hb12
  go_wp2_with fail
  refine (HBP.out w12 _ _ vs11 vs12 HB12.out HV112.out HV12.out).mono ?_
  rintro e w13 ⟨t13, rfl, ht13, hb13⟩
  obtain ⟨ad13, cap13, rfl⟩ := ht13.formB
  have HB13 := Hid.mk' (below_chain HB12.out hb13)
  have HW13 := Hid.mk' (HW12.out.later hb13)
  have HT13 := Hid.mk' ht13
  clear ht13 hb13
  go_wp2_with fail
  refine (HK1.out w13 HB13.out).mono ?_
  rintro e w14 ⟨rfl, hb14⟩
  have HB14 := Hid.mk' (below_chain HB13.out hb14)
  have HW14 := Hid.mk' (HW13.out.later hb14)
  have HT14 := Hid.mk' (HT13.out.later hb14)
  clear hb14
  go_wp2_with fail
  refine (SameLists_any _ _ LL w14 HT14.out HW14.out HLS.out.1 HLS.out.2).mono ?_
  rintro e w15 ⟨rfl, hb15⟩
  have HB15 := Hid.mk' (below_chain HB14.out hb15)
  clear hb15
  go_wp2_with fail
  go_ret
  exact ⟨rfl, HB15.out⟩
end Go.Proofs.YtnihclkaaglnjaaGreatDoor

/- The law ChannelBehind, where the second is no channel. -/
namespace Go.Proofs.YtnihclkaaglnjaaGreatDoor
open Go.RowKit

set_option maxRecDepth 100000 in
set_option maxHeartbeats 4000000 in
theorem bhLaw_b (a : Nat → Addr) (ad : Option Addr) (Q cap : Nat) (va : Nat → Value) (na : Nat → Nat) (za : Nat → Nat → Int) (ad' : Option Addr) (R cap' : Nat) (vb : Nat → Value) (nb : Nat → Nat) (zb : Nat → Nat → Int) (w : World) (hE : Errs w a) (h : TabAt w (.slice ad Q cap) Q va na za) (hm : Q ≤ maxLen) (k : TabAt w (.slice ad' R cap') R vb nb zb) (hm' : R ≤ maxLen) (hs1 : sumT na Q ≤ 2000000) (hs2 : sumT nb R ≤ 2000000) (hf1 : Q ≤ 40) (hf2 : sumT na Q ≤ 400) (hg1 : R ≤ 40) (hg2 : sumT nb R ≤ 400) (he : chanErr Q na za = 0) (he2 : chanErr R nb zb ≠ 0) :
    Calls Tryz.prog 3 #[.slice ad Q cap, .slice ad' R cap'] w fun e w' => e = .returned (.bool true) ∧ Below w.heap.size w w' := by
  have hC := noisy_any a w hE
  have HFA : Hid (∀ W, Below w.heap.size w W → Calls Tryz.prog 5 #[.slice ad Q cap] W fun e w' => e = .returned (.bool true) ∧ Below W.heap.size W w') := fun W hb => few_any _ Q va na za W (h.later hb) hm hs1 true ⟨fun _ => ⟨hf1, hf2⟩, fun _ => rfl⟩
  have HFB : Hid (∀ W, Below w.heap.size w W → Calls Tryz.prog 5 #[.slice ad' R cap'] W fun e w' => e = .returned (.bool true) ∧ Below W.heap.size W w') := fun W hb => few_any _ R vb nb zb W (k.later hb) hm' hs2 true ⟨fun _ => ⟨hg1, hg2⟩, fun _ => rfl⟩
  have HN : Hid (∀ W, Below w.heap.size w W → TabAt W (.slice ad Q cap) Q va na za) := fun W hb => h.later hb
  have HK : Hid (∀ W, Below w.heap.size w W → TabAt W (.slice ad' R cap') R vb nb zb) := fun W hb => k.later hb
  have HE : Hid (∀ W, Below w.heap.size w W → Errs W a) := fun W hb => hE.below hb
  have HD1 : Hid (∀ W, Below w.heap.size w W → Calls Tryz.prog 6 #[.slice ad Q cap] W fun e w' => e = .returned (.int .i64 (chanErr Q na za : Nat)) ∧ Below W.heap.size W w') := fun W hb => ChannelError_any _ Q va na za W (h.later hb) (by omega) (fun i hi => by have := rowB_le hf2 i hi; omega)
  have HD2 : Hid (∀ W, Below w.heap.size w W → Calls Tryz.prog 6 #[.slice ad' R cap'] W fun e w' => e = .returned (.int .i64 (chanErr R nb zb : Nat)) ∧ Below W.heap.size W w') := fun W hb => ChannelError_any _ R vb nb zb W (k.later hb) (by omega) (fun i hi => by have := rowB_le hg2 i hi; omega)
  have HCL := Hid.mk' (chanErr_le R nb zb)
  have HBP : Hid (∀ (W : World) (x y : Value) (va' vb' : Nat → Value), Below w.heap.size w W → TabAt W x Q va' na za → TabAt W y R vb' nb zb → Calls Tryz.prog 8 #[x, y] W fun e w' => ∃ t, e = .returned (.tuple #[t, errV a (chanErr R nb zb)]) ∧ LolAt w' t [] ∧ Below W.heap.size W w') := fun W x y va' vb' hb hx hy => by
    refine (Behind_b a x Q va' na za y R vb' nb zb W (hE.below hb) hx hy hf1 (rowB_le hf2) hg1 (rowB_le hg2) he he2).mono ?_
    rintro e w' ⟨rfl, rfl⟩
    exact ⟨_, rfl, lolB_nil _, Below.refl _ _⟩
  obtain ⟨LL, hLL⟩ : ∃ LL : List (List Int), LL = [] := ⟨_, rfl⟩
  have HLS : Hid (LL.length ≤ 1000000 ∧ ∀ r, r ∈ LL → r.length ≤ 1000) := by rw [hLL]; exact ⟨by simp, fun r hr => by simp at hr⟩
  have HW0 : Hid (∀ W, LolAt W (.slice none 0 0) LL) := fun W => by rw [hLL]; exact lolB_nil W
  rw [← hLL] at HBP
  rw [he] at HD1
  generalize chanErr R nb zb = c at *
  obtain ⟨ec, hec⟩ : ∃ ec, ec = errV a c := ⟨_, rfl⟩
  have HK1 : Hid (∀ W, Below w.heap.size w W → Calls Tryz.prog 10 #[ec, .int .i64 ((c : Nat) : Int)] W fun e w' => e = .returned (.bool true) ∧ Below W.heap.size W w') := fun W hb => by rw [hec]; exact coded_errV a c (by first | decide | (have := HCL.out; omega)) W (HE.out W hb)
  rw [← hec] at HBP
  have hc0 : ((c : Int) == 0) = false := by simp; omega
  have hci : ¬ (c : Int) = 0 := by omega
  clear hE h k hec hLL he
  go_enter Tryz.func3, Tryz.ntmps3
  go_wp2_with fail
  refine hC.mono ?_
  rintro e w1 ⟨rfl, hb1⟩
  have HB1 := Hid.mk' hb1
  clear hb1 hC
  go_wp2_with fail
  refine (HFA.out w1 HB1.out).mono ?_
  rintro e w2 ⟨rfl, hb2⟩
  have HB2 := Hid.mk' (below_chain HB1.out hb2)
  clear hb2
  go_wp2_with fail
  refine (HFB.out w2 HB2.out).mono ?_
  rintro e w3 ⟨rfl, hb3⟩
  have HB3 := Hid.mk' (below_chain HB2.out hb3)
  clear hb3
  go_wp2_with fail
  refine (HD1.out w3 HB3.out).mono ?_
  rintro e w4 ⟨rfl, hb4⟩
  have HB4 := Hid.mk' (below_chain HB3.out hb4)
  clear hb4
  go_wp2_with fail
  refine (HD2.out w4 HB4.out).mono ?_
  rintro e w5 ⟨rfl, hb5⟩
  have HB5 := Hid.mk' (below_chain HB4.out hb5)
  clear hb5
  have HW5 := Hid.mk' (HW0.out w5)
  go_wp2_with fail
  refine (lists_any _ Q va na za w5 (HN.out _ HB5.out) hf1 hf2).mono ?_
  rintro e w11 ⟨v11, vs11, rfl, hv11, hb11⟩
  obtain ⟨ad11, cap11, rfl⟩ := hv11.form
  have HV11 := Hid.mk' hv11
  have HB11 := Hid.mk' (below_chain HB5.out hb11)
  have HW11 := Hid.mk' (HW5.out.later hb11)
  clear hv11 hb11
  go_wp2_with fail
  refine (lists_any _ R vb nb zb w11 (HK.out _ HB11.out) hg1 hg2).mono ?_
  rintro e w12 ⟨v12, vs12, rfl, hv12, hb12⟩
  obtain ⟨ad12, cap12, rfl⟩ := hv12.form
  have HV12 := Hid.mk' hv12
  have HV112 := Hid.mk' (HV11.out.later hb12)
  have HB12 := Hid.mk' (below_chain HB11.out hb12)
  have HW12 := Hid.mk' (HW11.out.later hb12)
  clear hv12 hb12
  go_wp2_with fail
  refine (HBP.out w12 _ _ vs11 vs12 HB12.out HV112.out HV12.out).mono ?_
  rintro e w13 ⟨t13, rfl, ht13, hb13⟩
  obtain ⟨ad13, cap13, rfl⟩ := ht13.formB
  have HB13 := Hid.mk' (below_chain HB12.out hb13)
  have HW13 := Hid.mk' (HW12.out.later hb13)
  have HT13 := Hid.mk' ht13
  clear ht13 hb13
  go_wp2_with fail
  refine (HK1.out w13 HB13.out).mono ?_
  rintro e w14 ⟨rfl, hb14⟩
  have HB14 := Hid.mk' (below_chain HB13.out hb14)
  have HW14 := Hid.mk' (HW13.out.later hb14)
  have HT14 := Hid.mk' (HT13.out.later hb14)
  clear hb14
  go_wp2_with fail
  refine (SameLists_any _ _ LL w14 HT14.out HW14.out HLS.out.1 HLS.out.2).mono ?_
  rintro e w15 ⟨rfl, hb15⟩
  have HB15 := Hid.mk' (below_chain HB14.out hb15)
  clear hb15
  go_wp2_with fail
  go_ret
  exact ⟨rfl, HB15.out⟩
end Go.Proofs.YtnihclkaaglnjaaGreatDoor

/- The law ChannelBehind, where they do not fit. -/
namespace Go.Proofs.YtnihclkaaglnjaaGreatDoor
open Go.RowKit

set_option maxRecDepth 100000 in
set_option maxHeartbeats 4000000 in
theorem bhLaw_c (a : Nat → Addr) (ad : Option Addr) (Q cap : Nat) (va : Nat → Value) (na : Nat → Nat) (za : Nat → Nat → Int) (ad' : Option Addr) (R cap' : Nat) (vb : Nat → Value) (nb : Nat → Nat) (zb : Nat → Nat → Int) (w : World) (hE : Errs w a) (h : TabAt w (.slice ad Q cap) Q va na za) (hm : Q ≤ maxLen) (k : TabAt w (.slice ad' R cap') R vb nb zb) (hm' : R ≤ maxLen) (hs1 : sumT na Q ≤ 2000000) (hs2 : sumT nb R ≤ 2000000) (hf1 : Q ≤ 40) (hf2 : sumT na Q ≤ 400) (hg1 : R ≤ 40) (hg2 : sumT nb R ≤ 400) (he : chanErr Q na za = 0) (he2 : chanErr R nb zb = 0) (h3 : na 0 ≠ R) :
    Calls Tryz.prog 3 #[.slice ad Q cap, .slice ad' R cap'] w fun e w' => e = .returned (.bool true) ∧ Below w.heap.size w w' := by
  obtain ⟨q0, _, _, _, _, _, _⟩ := chanErr_ok he
  obtain ⟨ub, uo, ra, rc, hade, hcell⟩ : ∃ b o ra rc, ad = some ⟨b, o, none⟩ ∧ w.cell? ⟨b, o, none⟩ = some (.slice ra (na 0) rc) := by
    rcases h with ⟨_, _, _, h1⟩ | ⟨b, o, cp, h1, _, h2⟩
    · omega
    · simp only [Value.slice.injEq, true_and] at h1
      obtain ⟨ra, rc, e⟩ := (h2 0 q0).2.form
      have h5 := (h2 0 q0).1
      rw [Nat.add_zero, e] at h5
      exact ⟨b, o, ra, rc, h1.1, h5⟩
  have HCE : Hid (∀ W, Below w.heap.size w W → W.cell? ⟨ub, uo, none⟩ = some (.slice ra (na 0) rc)) := fun W hb => by rw [hb.cell (cell_lt hcell)]; exact hcell
  have hqI : (0 : Int) < (Q : Int) := by omega
  clear hcell
  have hC := noisy_any a w hE
  have HFA : Hid (∀ W, Below w.heap.size w W → Calls Tryz.prog 5 #[.slice ad Q cap] W fun e w' => e = .returned (.bool true) ∧ Below W.heap.size W w') := fun W hb => few_any _ Q va na za W (h.later hb) hm hs1 true ⟨fun _ => ⟨hf1, hf2⟩, fun _ => rfl⟩
  have HFB : Hid (∀ W, Below w.heap.size w W → Calls Tryz.prog 5 #[.slice ad' R cap'] W fun e w' => e = .returned (.bool true) ∧ Below W.heap.size W w') := fun W hb => few_any _ R vb nb zb W (k.later hb) hm' hs2 true ⟨fun _ => ⟨hg1, hg2⟩, fun _ => rfl⟩
  have HN : Hid (∀ W, Below w.heap.size w W → TabAt W (.slice ad Q cap) Q va na za) := fun W hb => h.later hb
  have HK : Hid (∀ W, Below w.heap.size w W → TabAt W (.slice ad' R cap') R vb nb zb) := fun W hb => k.later hb
  have HE : Hid (∀ W, Below w.heap.size w W → Errs W a) := fun W hb => hE.below hb
  have HD1 : Hid (∀ W, Below w.heap.size w W → Calls Tryz.prog 6 #[.slice ad Q cap] W fun e w' => e = .returned (.int .i64 (chanErr Q na za : Nat)) ∧ Below W.heap.size W w') := fun W hb => ChannelError_any _ Q va na za W (h.later hb) (by omega) (fun i hi => by have := rowB_le hf2 i hi; omega)
  have HD2 : Hid (∀ W, Below w.heap.size w W → Calls Tryz.prog 6 #[.slice ad' R cap'] W fun e w' => e = .returned (.int .i64 (chanErr R nb zb : Nat)) ∧ Below W.heap.size W w') := fun W hb => ChannelError_any _ R vb nb zb W (k.later hb) (by omega) (fun i hi => by have := rowB_le hg2 i hi; omega)
  subst hade
  have HBP : Hid (∀ (W : World) (x y : Value) (va' vb' : Nat → Value), Below w.heap.size w W → TabAt W x Q va' na za → TabAt W y R vb' nb zb → Calls Tryz.prog 8 #[x, y] W fun e w' => ∃ t, e = .returned (.tuple #[t, errV a 3]) ∧ LolAt w' t [] ∧ Below W.heap.size W w') := fun W x y va' vb' hb hx hy => by
    refine (Behind_lens a x Q va' na za y R vb' nb zb W (hE.below hb) hx hy hf1 (rowB_le hf2) hg1 (rowB_le hg2) he he2 h3).mono ?_
    rintro e w' ⟨rfl, hbw⟩
    exact ⟨_, rfl, lolB_nil _, hbw⟩
  obtain ⟨LL, hLL⟩ : ∃ LL : List (List Int), LL = [] := ⟨_, rfl⟩
  have HLS : Hid (LL.length ≤ 1000000 ∧ ∀ r, r ∈ LL → r.length ≤ 1000) := by rw [hLL]; exact ⟨by simp, fun r hr => by simp at hr⟩
  have HW0 : Hid (∀ W, LolAt W (.slice none 0 0) LL) := fun W => by rw [hLL]; exact lolB_nil W
  rw [← hLL] at HBP
  rw [he] at HD1
  rw [he2] at HD2
  obtain ⟨ec, hec⟩ : ∃ ec, ec = errV a 3 := ⟨_, rfl⟩
  have HK1 : Hid (∀ W, Below w.heap.size w W → Calls Tryz.prog 10 #[ec, .int .i64 3] W fun e w' => e = .returned (.bool true) ∧ Below W.heap.size W w') := fun W hb => by rw [hec]; exact coded_errV a 3 (by first | decide | (have := HCL.out; omega)) W (HE.out W hb)
  rw [← hec] at HBP
  have hnb0 : ((na 0 : Int) != (R : Int)) = true := by rw [bne_iff_ne]; omega
  have hni : ¬ (na 0 : Int) = (R : Int) := by omega
  generalize hn0 : na 0 = n0 at HCE hnb0 hni
  clear hE h k hec hLL he he2 h3 hn0
  go_enter Tryz.func3, Tryz.ntmps3
  go_wp2_with fail
  refine hC.mono ?_
  rintro e w1 ⟨rfl, hb1⟩
  have HB1 := Hid.mk' hb1
  clear hb1 hC
  go_wp2_with fail
  refine (HFA.out w1 HB1.out).mono ?_
  rintro e w2 ⟨rfl, hb2⟩
  have HB2 := Hid.mk' (below_chain HB1.out hb2)
  clear hb2
  go_wp2_with fail
  refine (HFB.out w2 HB2.out).mono ?_
  rintro e w3 ⟨rfl, hb3⟩
  have HB3 := Hid.mk' (below_chain HB2.out hb3)
  clear hb3
  go_wp2_with fail
  refine (HD1.out w3 HB3.out).mono ?_
  rintro e w4 ⟨rfl, hb4⟩
  have HB4 := Hid.mk' (below_chain HB3.out hb4)
  clear hb4
  go_wp2_with fail
  refine (HD2.out w4 HB4.out).mono ?_
  rintro e w5 ⟨rfl, hb5⟩
  have HB5 := Hid.mk' (below_chain HB4.out hb5)
  clear hb5
  have hce := HCE.out w5 HB5.out
  have HW5 := Hid.mk' (HW0.out w5)
  go_wp2_with fail
  refine (lists_any _ Q va na za w5 (HN.out _ HB5.out) hf1 hf2).mono ?_
  rintro e w11 ⟨v11, vs11, rfl, hv11, hb11⟩
  obtain ⟨ad11, cap11, rfl⟩ := hv11.form
  have HV11 := Hid.mk' hv11
  have HB11 := Hid.mk' (below_chain HB5.out hb11)
  have HW11 := Hid.mk' (HW5.out.later hb11)
  clear hv11 hb11
  go_wp2_with fail
  refine (lists_any _ R vb nb zb w11 (HK.out _ HB11.out) hg1 hg2).mono ?_
  rintro e w12 ⟨v12, vs12, rfl, hv12, hb12⟩
  obtain ⟨ad12, cap12, rfl⟩ := hv12.form
  have HV12 := Hid.mk' hv12
  have HV112 := Hid.mk' (HV11.out.later hb12)
  have HB12 := Hid.mk' (below_chain HB11.out hb12)
  have HW12 := Hid.mk' (HW11.out.later hb12)
  clear hv12 hb12
  go_wp2_with fail
  refine (HBP.out w12 _ _ vs11 vs12 HB12.out HV112.out HV12.out).mono ?_
  rintro e w13 ⟨t13, rfl, ht13, hb13⟩
  obtain ⟨ad13, cap13, rfl⟩ := ht13.formB
  have HB13 := Hid.mk' (below_chain HB12.out hb13)
  have HW13 := Hid.mk' (HW12.out.later hb13)
  have HT13 := Hid.mk' ht13
  clear ht13 hb13
  go_wp2_with fail
  refine (HK1.out w13 HB13.out).mono ?_
  rintro e w14 ⟨rfl, hb14⟩
  have HB14 := Hid.mk' (below_chain HB13.out hb14)
  have HW14 := Hid.mk' (HW13.out.later hb14)
  have HT14 := Hid.mk' (HT13.out.later hb14)
  clear hb14
  go_wp2_with fail
  refine (SameLists_any _ _ LL w14 HT14.out HW14.out HLS.out.1 HLS.out.2).mono ?_
  rintro e w15 ⟨rfl, hb15⟩
  have HB15 := Hid.mk' (below_chain HB14.out hb15)
  clear hb15
  go_wp2_with fail
  go_ret
  exact ⟨rfl, HB15.out⟩
end Go.Proofs.YtnihclkaaglnjaaGreatDoor
