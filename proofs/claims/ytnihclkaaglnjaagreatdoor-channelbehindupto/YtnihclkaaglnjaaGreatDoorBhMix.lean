/- The program's mixed. -/
import Derived.Test.YtnihclkaaglnjaaGreatDoorBhOne
import Derived.Test.YtnihclkaaglnjaaGreatDoorNatPlus
import Derived.Test.YtnihclkaaglnjaaGreatDoorNatTold
import Derived.Deep.CutRange
import Derived.Deep.DeepCutAuto
namespace Go.Proofs.YtnihclkaaglnjaaGreatDoor
open Go.RowKit

theorem natAt_nil (w : World) : NatAt w (.slice none 0 0) 0 := ⟨[], fun i hi => by simp at hi, fun i hi => by simp at hi, rfl, Or.inl ⟨_, _, rfl, rfl⟩⟩
theorem NatOf_0 (w : World) : Calls Tryz.prog 45 #[.int .u64 0] w fun e w' => e = .returned (.slice none 0 0) ∧ w' = w := by
  go_enter Tryz.func45, Tryz.ntmps45
  go_wp2_with fail
  go_ret
  exact ⟨rfl, rfl⟩
theorem sumW_bound {f : Nat → Nat} {M : Nat} : ∀ {n : Nat}, (∀ j, j < n → f j ≤ M) → sumW f n ≤ n * M
  | 0, _ => Nat.zero_le _
  | n + 1, h => by
    have h1 := sumW_bound (n := n) fun j hj => h j (by omega)
    have h2 := h n (by omega)
    show sumW f n + f n ≤ _
    rw [Nat.succ_mul]
    omega
/-- What of each symbol comes, of the first rows. -/
def mixX (V : Nat → Nat → Nat) (z : Nat → Nat) (i k : Nat) : Nat := sumW (fun j => V j k * z j) i
def mixA (V : Nat → Nat → Nat) (z : Nat → Nat) (C i : Nat) : Nat := sumW (fun j => sumW (fun k => V j k * z j) C) i
theorem mix_room {V : Nat → Nat → Nat} {z : Nat → Nat} {R C : Nat} (hR : R ≤ 16) (hC : C ≤ 16) (h : ∀ j, j < R → ∀ k, k < C → V j k * z j ≤ 2 ^ 144) {i k : Nat} (hi : i ≤ R) : (k < C → mixX V z i k < 18446744073709551616 ^ 3) ∧ mixA V z C i < 18446744073709551616 ^ 3 ∧ (i < R → k ≤ C → mixA V z C i + sumW (fun k => V i k * z i) k < 18446744073709551616 ^ 3) := by
  have big : (32 : Nat) * (16 * 2 ^ 144) < 18446744073709551616 ^ 3 := by decide
  have hrow : ∀ j, j < R → ∀ k, k ≤ C → sumW (fun k => V j k * z j) k ≤ 16 * 2 ^ 144 := fun j hj k hk => Nat.le_trans (sumW_bound fun q hq => h j hj q (by omega)) (Nat.mul_le_mul_right _ (by omega))
  have hA : mixA V z C i ≤ 16 * (16 * 2 ^ 144) := Nat.le_trans (sumW_bound fun j hj => hrow j (by omega) C (Nat.le_refl _)) (Nat.mul_le_mul_right _ (by omega))
  refine ⟨fun hk => ?_, ?_, fun h1 h2 => ?_⟩
  · have h3 : mixX V z i k ≤ 16 * 2 ^ 144 := Nat.le_trans (sumW_bound fun j hj => h j (by omega) k hk) (Nat.mul_le_mul_right _ (by omega))
    exact Nat.lt_of_le_of_lt h3 (by decide)
  · exact Nat.lt_of_le_of_lt hA (by decide)
  · have h3 := hrow i h1 k h2
    exact Nat.lt_of_le_of_lt (Nat.add_le_add hA h3) (by decide)
/-- A row of numbers that is filled. -/
structure MRow (w : World) (g C : Nat) (F : Nat → Value) (X : Nat → Nat) : Prop where
  row : RowIs w g C F
  nat : ∀ k, k < C → NatAt w (F k) (X k)
theorem MRow.later {w w' : World} {g C : Nat} {F : Nat → Value} {X : Nat → Nat} (h : MRow w g C F X) (hb : Below w.heap.size w w') : MRow w' g C F X := ⟨h.row.later hb, fun k hk => (h.nat k hk).later hb⟩
theorem MRow.congr {w : World} {g C : Nat} {F : Nat → Value} {X Y : Nat → Nat} (h : MRow w g C F X) (e : ∀ k, k < C → X k = Y k) : MRow w g C F Y := ⟨h.row, fun k hk => by rw [← e k hk]; exact h.nat k hk⟩
theorem MRow.keep {w : World} {g C k : Nat} {F : Nat → Value} {X : Nat → Nat} {u v : Value} {y : Nat} (h : MRow w g C F X) (hk : k < C) (hv : NatAt w v y) : NatAt (w.setCell ⟨g, k, none⟩ u) v y := by
  have hc := h.row.row k hk
  obtain ⟨a, l, c, e⟩ := (h.nat k hk).sl
  rw [e] at hc
  exact hv.kept (kept_put hc (fun x e => by cases e))
theorem MRow.put {w : World} {g C k : Nat} {F : Nat → Value} {X : Nat → Nat} {u : Value} {y : Nat} (h : MRow w g C F X) (hk : k < C) (hu : NatAt w u y) : MRow (w.setCell ⟨g, k, none⟩ u) g C (fun j => if j = k then u else F j) (fun j => if j = k then y else X j) :=
  ⟨h.row.setF hk _ (fun j _ => rfl), fun j hj => by
    by_cases e : j = k
    · rw [if_pos e, if_pos e]; exact h.keep hk hu
    · rw [if_neg e, if_neg e]; exact h.keep hk (h.nat j hj)⟩
def fitT (N D : Nat) : Prop := N / Nat.gcd N D ≤ 4611686018427387904 ∧ D / Nat.gcd N D ≤ 4611686018427387904
theorem toldV_fit {a : Nat → Addr} {N D : Nat} (h : fitT N D) : toldV a N D = .tuple #[.agg #[.int .i64 ((lowP N D).1 : Int), .int .i64 ((lowP N D).2 : Int)], .nilIface] := if_pos h
theorem toldV_big {a : Nat → Addr} {N D : Nat} (h : ¬ fitT N D) : toldV a N D = .tuple #[.agg #[.int .i64 0, .int .i64 0], .iface 147 (.pointer (some (a 1)))] := if_neg h

set_option maxRecDepth 100000 in
set_option maxHeartbeats 8000000 in
theorem mixed_any (a : Nat → Addr) (u : Value) (z : Nat → Nat) (g0 cap0 R C lo hi : Nat) (F0 : Nat → Value) (V : Nat → Nat → Nat) (w : World) (hE : Errs w a) (hu : NumsAt w u R (fun i => (z i : Int))) (hrc : ∀ j, j < R → w.cell? ⟨g0, j, none⟩ = some (F0 j)) (hrn : ∀ j, j < R → NatsW lo hi w (F0 j) C (V j)) (hR0 : 0 < R) (hR : R ≤ 16) (hC0 : 0 < C) (hC : C ≤ 16) (hz : ∀ i, i < R → z i ≤ 256) (hV : ∀ j, j < R → ∀ k, k < C → V j k < 18446744073709551616 ^ 3 ∧ V j k * z j ≤ 2 ^ 144) (hA0 : 0 < mixA V z C R) :
    Calls Tryz.prog 21 #[u, .slice (some ⟨g0, 0, none⟩) R cap0] w fun e w' => ((∀ k, k < C → fitT (mixX V z R k) (mixA V z C R)) → ∃ g, e = .returned (.tuple #[.slice (some ⟨g, 0, none⟩) C C, .nilIface]) ∧ RowIs w' g (2 * C) (frC fun k => lowP (mixX V z R k) (mixA V z C R))) ∧ ((∃ k, k < C ∧ ¬ fitT (mixX V z R k) (mixA V z C R)) → e = .returned (.tuple #[.slice none 0 0, errV a 2])) ∧ Below w.heap.size w w' := by
  obtain ⟨i1, hi1, hz0, hz1, hz2⟩ := info_parts Tryz.infoFc
  have HIF : Hid (Tryz.prog.info? 67 = some i1 ∧ i1.zero = some (.agg #[.int .i64 0, .int .i64 0]) ∧ i1.size = 2 ∧ i1.bytes = 16) := ⟨hi1, hz0, hz1, hz2⟩
  clear hi1 hz0 hz1 hz2
  obtain ⟨i0, hi0, hz0, hz1, hz2⟩ := info_parts Tryz.infoNw
  have HINF : Hid (Tryz.prog.info? 82 = some i0 ∧ i0.zero = some (.slice none 0 0) ∧ i0.size = 1 ∧ i0.bytes = 24) := ⟨hi0, hz0, hz1, hz2⟩
  clear hi0 hz0 hz1 hz2
  obtain ⟨wb, wo, wcap, rfl, hwr⟩ : ∃ wb wo wcap, u = .slice (some ⟨wb, wo, none⟩) R wcap ∧ RowAt w wb wo R (fun i => (z i : Int)) := by
    rcases hu with ⟨_, _, _, h1⟩ | ⟨b, o, cap, h1, _, h2⟩
    · omega
    · exact ⟨b, o, cap, h1, h2⟩
  have HWR : Hid (∀ W, Below w.heap.size w W → ∀ i, i < R → W.cell? ⟨wb, wo + i, none⟩ = some (.int .i64 (z i : Int))) := fun W hb i hi => hwr.later hb i hi
  have HE := Hid.mk' hE
  have HROW : Hid (∀ j, j < R → ∃ (rb rcap : Nat) (uu : Nat → Value), ∀ W, Below w.heap.size w W → W.cell? ⟨g0, j, none⟩ = some (.slice (some ⟨rb, 0, none⟩) C rcap) ∧ ∀ k, k < C → W.cell? ⟨rb, k, none⟩ = some (uu k) ∧ NatAt W (uu k) (V j k)) := fun j hj => by
    obtain ⟨b, cap, u, hv, _, _, hr⟩ := hrn j hj
    refine ⟨b, cap, u, fun W hb => ⟨?_, fun k hk => ⟨?_, (hr k hk).2.later hb⟩⟩⟩
    · have := hrc j hj
      rw [hv] at this
      rw [hb.cell (cell_lt this)]
      exact this
    · rw [hb.cell (cell_lt (hr k hk).1)]
      exact (hr k hk).1
  have HZB := Hid.mk' hz
  have HVB := Hid.mk' hV
  have HRM : Hid (∀ i k, i ≤ R → (k < C → mixX V z i k < 18446744073709551616 ^ 3) ∧ mixA V z C i < 18446744073709551616 ^ 3 ∧ (i < R → k ≤ C → mixA V z C i + sumW (fun k => V i k * z i) k < 18446744073709551616 ^ 3)) := fun i k hi => mix_room hR hC (fun j hj k hk => (hV j hj k hk).2) hi
  have HPB : Hid (∀ j, j < R → ∀ k, k < C → V j k * z j < 18446744073709551616 ^ 3) := fun j hj k hk => Nat.lt_of_le_of_lt (hV j hj k hk).2 (by decide)
  clear hE hu hrc hrn hz hV hwr
  obtain ⟨rb0, rcap0, uu0, hr0⟩ := HROW.out 0 hR0
  have HR0 := Hid.mk' hr0
  clear hr0
  have hR0I : (0 : Int) < (R : Int) := by omega
  have hcur0 : Below w.heap.size w w := Below.refl _ _
  have hcur : Below w.heap.size w w.drew := (Below.refl _ _).drew
  go_enter Tryz.func21, Tryz.ntmps21
  go_wp2_with fail
  obtain ⟨w2, hmk, hown2, hgrow2⟩ := run_make_full (P := Tryz.prog) w.drew w.drew.heap.size 85 82 i0 _ 1 Tryz.underlying85 HINF.out.1 HINF.out.2.1 HINF.out.2.2.1 .i64 .i64 C (by rw [HINF.out.2.2.2]; omega) (by unfold maxLen; omega) (Nat.le_refl _)
  have HF2 : Hid (RowIs w2 w.heap.size C (fun _ => .slice none 0 0)) := rowIs_made hown2 (made_one (.slice none 0 0) rfl C)
  have HB2 : Hid (Below w.heap.size w w2) := (Below.refl _ _).drew.trans (made_below hgrow2)
  clear hown2 hgrow2
  have HKS : Hid (∀ W, Below w.heap.size w W → W.cell? ⟨g0, 0, none⟩ = some (.slice (some ⟨rb0, 0, none⟩) C rcap0)) := fun W hb => (HR0.out W hb).1
  go_cut [6, 7] from 18 (fun s r wx => s = .slice (some ⟨w.heap.size, 0, none⟩) C C ∧ r = .slice none 0 0 ∧ Hid (RowIs wx w.heap.size C (fun _ => .slice none 0 0)) ∧ Hid (Below w.heap.size w wx))
  case first =>
    go_region_held3 (fun W => W.cell? ⟨g0, 0, none⟩ = some (.slice (some ⟨rb0, 0, none⟩) C rcap0)) (first | exact HKS.out _ hcur0 | exact HKS.out _ hcur | exact HKS.out _ HB2.out) (first
      | (go_at_call 45; refine (NatOf_0 _).mono ?_; rintro e w3 ⟨rfl, hw3⟩; rw [hw3]; clear hw3))
    all_goals
      go_wp2_with fail
      go_meet
      exact ⟨rfl, rfl, HF2, HB2⟩
  case rest =>
  clear hmk HF2 HB2 HKS
  obtain ⟨rfl, rfl, HF2, HB2⟩ := hcut
  go_wp2_with fail
  go_loopw [7, 26] (fun s t wr => ∃ (i : Nat) (F : Nat → Value) (sa : Option Addr) (sl sc : Nat), i ≤ R ∧ t = .int .i64 i ∧ s = .slice sa sl sc ∧ Hid (MRow wr w.heap.size C F (mixX V z i)) ∧ Hid (NatAt wr (.slice sa sl sc) (mixA V z C i)) ∧ Hid (Below w.heap.size w wr)) (fun _ t _ => R - (intOf t).toNat)
  case atStart => exact ⟨0, _, _, _, _, Nat.zero_le _, rfl, rfl, ⟨HF2.out, fun k _ => natAt_nil _⟩, natAt_nil _, HB2⟩
  case round =>
    clear HF2 HB2
    obtain ⟨i, F, sa, sl, sc, hi, rfl, rfl, HM, HA, HB⟩ := hrel
    rcases Nat.lt_or_ge i R with h1 | h1
    · have hiI : (i : Int) < (R : Int) := by omega
      have hi0 : (0 : Int) ≤ (i : Int) := by omega
      obtain ⟨rb, rcap, uu, hrw⟩ := HROW.out i h1
      have HRW := Hid.mk' hrw
      clear hrw
      have hc := (HRW.out wr HB.out).1
      have HM0 : Hid (MRow wr w.heap.size C F (fun k => if k < 0 then mixX V z (i + 1) k else mixX V z i k)) := HM.out.congr fun k _ => by rw [if_neg (by omega)]
      have HA0 : Hid (NatAt wr (.slice sa sl sc) (mixA V z C i + sumW (fun k => V i k * z i) 0)) := HA.out
      clear HM HA
      go_wp2_with fail
      clear hc
      go_loopw [7, 33] (fun s t wr => ∃ (k : Nat) (F : Nat → Value) (sa : Option Addr) (sl sc : Nat), k ≤ C ∧ t = .int .i64 k ∧ s = .slice sa sl sc ∧ Hid (MRow wr w.heap.size C F (fun j => if j < k then mixX V z (i + 1) j else mixX V z i j)) ∧ Hid (NatAt wr (.slice sa sl sc) (mixA V z C i + sumW (fun k => V i k * z i) k)) ∧ Hid (Below w.heap.size w wr)) (fun _ t _ => C - (intOf t).toNat)
      case atStart => exact ⟨0, _, _, _, _, Nat.zero_le _, rfl, rfl, HM0, HA0, HB⟩
      case round =>
        clear HM0 HA0 HB
        obtain ⟨k, F, sa, sl, sc, hk, rfl, rfl, HM, HA, HB⟩ := hrel
        rcases Nat.lt_or_ge k C with h2 | h2
        · have hkI : (k : Int) < (C : Int) := by omega
          have hk0 : (0 : Int) ≤ (k : Int) := by omega
          obtain ⟨hn, hnn⟩ := (HRW.out wr HB.out).2 k h2
          have hzc := HWR.out wr HB.out i h1
          have hzb := HZB.out i h1
          have HXN : Hid (mixX V z (i + 1) k = mixX V z i k + V i k * z i) := rfl
          have HAN : Hid (sumW (fun k => V i k * z i) (k + 1) = sumW (fun k => V i k * z i) k + V i k * z i) := rfl
          have hr1 := (HRM.out i k hi).1 h2
          have hr2 := (HRM.out i k hi).2.2 h1 hk
          have hr3 := HPB.out i h1 k h2
          have hnk := HM.out.nat k h2
          simp only [Nat.lt_irrefl, if_false] at hnk
          have hvb := (HVB.out i h1 k h2).1
          have HMC : Hid (∀ (W : World) (F : Nat → Value), MRow W w.heap.size C F (fun j => if j = k then mixX V z i k + V i k * z i else if j < k then mixX V z (i + 1) j else mixX V z i j) → MRow W w.heap.size C F (fun j => if j < k + 1 then mixX V z (i + 1) j else mixX V z i j)) := fun W F h => h.congr fun j hj => by
            by_cases e : j = k
            · rw [if_pos e, if_pos (by omega), e, HXN.out]
            · rw [if_neg e]
              by_cases e2 : j < k
              · rw [if_pos e2, if_pos (by omega)]
              · rw [if_neg e2, if_neg (by omega)]
          generalize z i = zi at *
          generalize V i k = vk at *
          have hwz : IntKind.u64.wrap (zi : Int) = (zi : Int) := by rw [IntKind.wrap_u64]; exact Int.emod_eq_of_lt (by omega) (by omega)
          obtain ⟨na, nl, nc, hne⟩ := hnn.sl
          rw [hne] at hn hnn
          have HTM := Hid.mk' (Times_by (.slice na nl nc) vk zi 3 wr hnn (by omega) hvb (by decide))
          obtain ⟨fa, fl, fc, hfe⟩ := hnk.sl
          have hFk := HM.out.row.row k h2
          rw [hfe] at hFk hnk
          have HNK := Hid.mk' hnk
          have HFK : Hid (∀ W, Below wr.heap.size wr W → W.cell? ⟨w.heap.size, k, none⟩ = some (.slice fa fl fc)) := fun W hb => by rw [hb.cell (cell_lt hFk)]; exact hFk
          clear hnn hne hnk hfe hFk
          go_wp2_with fail
          refine HTM.out.mono ?_
          clear HTM
          rintro e w4 ⟨p4, rfl, hp4, hb4⟩
          obtain ⟨pa, pl, pc, rfl⟩ := hp4.sl
          have f4 := HFK.out w4 hb4
          have HP1 := Hid.mk' (Plus_any (.slice fa fl fc) (.slice pa pl pc) (mixX V z i k) (vk * zi) 3 w4 (HNK.out.later hb4) hp4 hr1 hr3 (by decide))
          have HP4 := Hid.mk' hp4
          have HB4 := Hid.mk' hb4
          clear hp4 hb4 hn hzc
          go_wp2_with fail
          refine HP1.out.mono ?_
          clear HP1
          rintro e w5 ⟨p5, rfl, hp5, hb5⟩
          obtain ⟨qa, ql, qc, rfl⟩ := hp5.sl
          have HP2 := Hid.mk' (Plus_any (.slice sa sl sc) (.slice pa pl pc) _ (vk * zi) 3 w5 ((HA.out.later HB4.out).later hb5) (HP4.out.later hb5) hr2 hr3 (by decide))
          have HP5 := Hid.mk' hp5
          have HB5 := Hid.mk' (below_chain HB4.out hb5)
          clear hp5 hb5 f4
          have f5 := HFK.out w5 HB5.out
          go_wp2_with fail
          refine HP2.out.mono ?_
          clear HP2
          rintro e w6 ⟨p6, rfl, hp6, hb6⟩
          obtain ⟨ra, rl, rc, rfl⟩ := hp6.sl
          have HB6 := Hid.mk' (below_chain HB5.out hb6)
          have hM6 := HM.out.later HB6.out
          have HM7 := Hid.mk' (HMC.out _ _ (hM6.put (u := .slice qa ql qc) h2 (HP5.out.later hb6)))
          have HA7 := Hid.mk' (hM6.keep (u := .slice qa ql qc) h2 hp6)
          have HB7 : Hid (Below w.heap.size w (w6.setCell ⟨w.heap.size, k, none⟩ (.slice qa ql qc))) := (below_chain HB.out HB6.out).setCell (Nat.le_refl _) _
          have f6 := HFK.out w6 HB6.out
          have z6 := hM6.row.fz k h2
          clear hp6 hb6 hM6 f5
          go_wp2_with fail
          generalize w6.setCell ⟨w.heap.size, k, none⟩ (.slice qa ql qc) = W7 at *
          refine ⟨⟨k + 1, _, _, _, _, h2, by go_num, rfl, HM7, ?_, HB7⟩, by simp [intOf]; omega⟩
          rw [HAN.out, ← Nat.add_assoc]
          exact HA7
        · obtain rfl : k = C := by omega
          have HM1 : Hid (MRow wr w.heap.size k F (mixX V z (i + 1))) := HM.out.congr fun j hj => by rw [if_pos hj]
          have HA1 : Hid (NatAt wr (.slice sa sl sc) (mixA V z k (i + 1))) := HA.out
          clear HM HA
          go_wp2_with fail
          exact ⟨⟨i + 1, _, _, _, _, h1, by go_num, rfl, HM1, HA1, HB⟩, by simp [intOf]; omega⟩
    · obtain rfl : i = R := by omega
      have HXB : Hid (∀ k, k < C → mixX V z i k < 18446744073709551616 ^ 3) := fun k hk => (HRM.out i k (Nat.le_refl _)).1 hk
      have hAB := (HRM.out i 0 (Nat.le_refl _)).2.1
      have HE7 := Hid.mk' (HE.out.below HB.out)
      generalize hDe : mixA V z C i = D at *
      generalize hXe : mixX V z i = X at *
      have HDE := Hid.mk' hDe
      have HXE : Hid (∀ k, mixX V z i k = X k) := fun k => by rw [hXe]
      clear hDe hXe
      obtain ⟨w7, hw7⟩ : ∃ w7, w7 = wr := ⟨_, rfl⟩
      rw [← hw7] at HM HA HB HE7 ⊢
      clear hw7
      go_wp2_with (at_make; go_must (refine wpList_make_full _ rfl _ _ _ rfl w7.heap.size 67 i1 _ 2 Tryz.underlying52 HIF.out.1 HIF.out.2.1 HIF.out.2.2.1 .i64 .i64 _ _ C rfl rfl rfl rfl (by rw [HIF.out.2.2.2]; omega) (by unfold maxLen; omega) (Nat.le_refl _) ?_; intro w8 hown2 hgrow2; have HF8 := Hid.mk' (rowIs_madeF hown2 rfl (made_fc C)); have HB8 := Hid.mk' (made_below hgrow2); clear hown2 hgrow2))
      go_loopw [64] (fun t wr => ∃ (k : Nat) (f : Nat → Value), k ≤ C ∧ t = .int .i64 k ∧ Hid (RowIs wr w7.heap.size (2 * C) f ∧ (∀ j, j < 2 * k → f j = frC (fun k => lowP (X k) D) j) ∧ ∀ j, j < k → fitT (X j) D) ∧ Hid (Below w7.heap.size w7 wr)) (fun t _ => C - (intOf t).toNat)
      case atStart => exact ⟨0, _, Nat.zero_le _, rfl, ⟨HF8.out, fun j hj => by omega, fun j hj => by omega⟩, HB8⟩
      case round =>
        clear HF8 HB8
        obtain ⟨k, f, hk, rfl, HF, HBR⟩ := hrel
        rcases Nat.lt_or_ge k C with h2 | h2
        · have hkI : (k : Int) < (C : Int) := by omega
          have hk0 : (0 : Int) ≤ (k : Int) := by omega
          have hM9 := HM.out.later HBR.out
          have hn9 := hM9.nat k h2
          have hf9 := hM9.row.row k h2
          obtain ⟨na, nl, nc, hne⟩ := hn9.sl
          rw [hne] at hf9 hn9
          have HTD := Hid.mk' (Told_any a (.slice na nl nc) (.slice sa sl sc) (X k) D 3 wr (HE7.out.below HBR.out) hn9 (HA.out.later HBR.out) hA0 (HXB.out k h2) hAB (by decide))
          clear hM9 hn9 hne
          by_cases hfit : fitT (X k) D
          · rw [toldV_fit hfit] at HTD
            have HFT := Hid.mk' hfit
            have HP : Hid (frC (fun k => lowP (X k) D) (k * 2) = .int .i64 ((lowP (X k) D).1 : Int) ∧ frC (fun k => lowP (X k) D) (k * 2 + 1) = .int .i64 ((lowP (X k) D).2 : Int)) := ⟨frC_num _ k, frC_den _ k⟩
            generalize (lowP (X k) D).1 = p at *
            generalize (lowP (X k) D).2 = q at *
            go_wp2_with fail
            refine HTD.out.mono ?_
            clear HTD
            rintro e w9 ⟨rfl, hb9⟩
            obtain ⟨Wb, hWb⟩ : ∃ Wb, Wb = w9.alloc (.cells #[.int .i64 (p : Int), .int .i64 (q : Int)] 87) := ⟨_, rfl⟩
            have hbb : Below wr.heap.size wr Wb := by rw [hWb]; exact hb9.alloc hb9.size _
            have cb0 : Wb.cell? ⟨w9.heap.size, 0, none⟩ = some (.int .i64 (p : Int)) := by rw [hWb, World.cell?_alloc_at _ _ _ _ rfl]; rfl
            have cb1 : Wb.cell? ⟨w9.heap.size, 1, none⟩ = some (.int .i64 (q : Int)) := by rw [hWb, World.cell?_alloc_at _ _ _ _ rfl]; rfl
            have hF5 := HF.out.1.later hbb
            have y0 := hF5.row (k * 2) (by omega)
            have y1 := hF5.row (k * 2 + 1) (by omega)
            have z0 := hF5.fz (k * 2) (by omega)
            have z1 := hF5.fz (k * 2 + 1) (by omega)
            have HS : Hid (RowIs ((Wb.setCell ⟨w7.heap.size, k * 2, none⟩ (.int .i64 (p : Int))).setCell ⟨w7.heap.size, k * 2 + 1, none⟩ (.int .i64 (q : Int))) w7.heap.size (2 * C) (fun j => if j = k * 2 + 1 then .int .i64 (q : Int) else if j = k * 2 then .int .i64 (p : Int) else f j)) := (hF5.setF (j := k * 2) (f' := fun j => if j = k * 2 then .int .i64 (p : Int) else f j) (by omega) _ (fun _ _ => rfl)).setF (by omega) _ (fun _ _ => rfl)
            have HB9 := Hid.mk' (below_chain HBR.out hbb)
            have HWb := Hid.mk' hWb
            clear hF5 hb9 hbb hWb hf9
            go_upto_region 19 with fail
            rw [← HWb.out]
            go_wp2_with fail
            refine ⟨⟨k + 1, _, h2, by go_num, ⟨HS.out, fun j hj => ?_, fun j hj => ?_⟩, ?_⟩, by simp [intOf]; omega⟩
            · by_cases h3 : j = k * 2 + 1
              · rw [if_pos h3, h3]; exact HP.out.2.symm
              · rw [if_neg h3]
                by_cases h4 : j = k * 2
                · rw [if_pos h4, h4]; exact HP.out.1.symm
                · rw [if_neg h4]; exact HF.out.2.1 j (by omega)
            · rcases Nat.lt_or_ge j k with h3 | h3
              · exact HF.out.2.2 j h3
              · obtain rfl : j = k := by omega
                exact HFT.out
            · exact (HB9.out.setCell (Nat.le_refl _) _).setCell (Nat.le_refl _) _
          · rw [toldV_big hfit] at HTD
            have HNF := Hid.mk' hfit
            generalize hpa : a 1 = pa at HTD
            go_wp2_with fail
            refine HTD.out.mono ?_
            clear HTD
            rintro e w9 ⟨rfl, hb9⟩
            have HB9 := Hid.mk' (below_chain HB.out (below_chain HBR.out hb9))
            clear hb9
            go_wp2_with fail
            go_ret2
            simp only [HXE.out, HDE.out]
            refine ⟨fun h => absurd (h k h2) HNF.out, fun _ => ?_, HB9.out.alloc HB9.out.size _⟩
            rw [errV_pos a (by decide), show (2 - 1 : Nat) = 1 from rfl, hpa]
            rfl
        · obtain rfl : k = C := by omega
          go_wp2_with fail
          go_ret2
          simp only [HXE.out, HDE.out]
          exact ⟨fun _ => ⟨_, rfl, ⟨fun j hj => by rw [← HF.out.2.1 j hj]; exact HF.out.1.row j hj, HF.out.1.fz⟩⟩, fun ⟨j, hj, hn⟩ => absurd (HF.out.2.2 j hj) hn, below_chain HB.out HBR.out⟩
end Go.Proofs.YtnihclkaaglnjaaGreatDoor
