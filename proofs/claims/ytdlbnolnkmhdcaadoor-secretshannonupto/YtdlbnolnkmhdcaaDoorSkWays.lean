/- secret.waysOf: of each message the weight of keys for each sign. -/
import Derived.Test.YtdlbnolnkmhdcaaDoorSkVal
import Derived.Test.YtdlbnolnkmhdcaaDoorGrid
import Derived.Deep.CutBlock
namespace Go.Proofs.YtdlbnolnkmhdcaaDoor
open Go.RowKit

theorem Tryd.infoIntsS : (Tryd.prog.info? 22).map (fun i => (i.zero, i.size, i.bytes)) = some (some (.slice none 0 0), 1, 24) := by kernel_rfl
theorem GridB.base {w w1 wr : World} {g n C m : Nat} {rb : Nat → Nat} {f : Nat → Nat → Value} (h : GridB w1 wr g n C m rb f) (hb : Below w.heap.size w w1) : GridB w wr g n C m rb f :=
  ⟨below_chS hb h.below, Nat.le_trans hb.size h.hg, h.outer, h.made, h.ofz, fun i hi => ⟨Nat.le_trans hb.size (h.rge i hi).1, (h.rge i hi).2.1, (h.rge i hi).2.2⟩, h.inj, h.rows⟩
theorem GridB.cast {w wr : World} {g n C m : Nat} {rb : Nat → Nat} {f f' : Nat → Nat → Value} (h : GridB w wr g n C m rb f) (hf : ∀ i k, i < m → k < C → f' i k = f i k) : GridB w wr g n C m rb f' :=
  ⟨h.below, h.hg, h.outer, h.made, h.ofz, h.rge, h.inj, fun i hi => ⟨fun k hk => by rw [hf i k hi hk]; exact (h.rows i hi).row k hk, (h.rows i hi).fz⟩⟩
theorem GridB.tab {w wr : World} {g n C : Nat} {rb : Nat → Nat} {Z : Nat → Nat → Int} (h : GridB w wr g n C n rb (fun i k => .int .i64 (Z i k))) (h0 : 0 < n) (hC : 0 < C) : TabAt wr (.slice (some ⟨g, 0, none⟩) n n) n (fun i => .slice (some ⟨rb i, 0, none⟩) C C) (fun _ => C) Z := by
  refine Or.inr ⟨g, 0, n, rfl, h0, fun i hi => ⟨by rw [Nat.zero_add]; exact h.made i hi, Or.inr ⟨rb i, 0, C, rfl, hC, fun k hk => ?_⟩⟩⟩
  rw [Nat.zero_add]
  exact (h.rows i hi).row k hk

theorem made_lt {w : World} {b g n : Nat} {t : TypeId} {xs : List Value} (h : w.ownsRow b t 1 (.slice (some ⟨g, 0, none⟩) n n) n xs) : g < w.heap.size := by
  rcases h.2 with ⟨hx, _⟩ | ⟨g', cap', cur, hv, _, hh, _⟩
  · cases hx
  · obtain ⟨rfl, _⟩ : g = g' ∧ _ := by simpa using hv
    exact heap_lt hh
/-- The weight of the first k keys by which message m goes to sign s. -/
def wayZ (z : Nat → Int) (zs : Nat → Nat → Int) (m s : Nat) : Nat → Int
  | 0 => 0
  | k + 1 => wayZ z zs m s k + if zs k m = (s : Int) then z k else 0
theorem wayZ_le {z : Nat → Int} {zs : Nat → Nat → Int} {m s n : Nat} (h : ∀ i, i < n → 0 ≤ z i) : ∀ k, k ≤ n → 0 ≤ wayZ z zs m s k ∧ wayZ z zs m s k ≤ sumN z k
  | 0, _ => ⟨Int.le_refl _, Int.le_refl _⟩
  | k + 1, hk => by
    have ih := wayZ_le (zs := zs) (m := m) (s := s) h k (by omega)
    have := h k (by omega)
    simp only [wayZ, sumN]
    split <;> omega
theorem wayZ_next {z : Nat → Int} {zs : Nat → Nat → Int} {m k s : Nat} (h : zs k m = (s : Int)) (t : Nat) : wayZ z zs m t (k + 1) = if t = s then wayZ z zs m s k + z k else wayZ z zs m t k := by
  simp only [wayZ, h]
  by_cases e : t = s
  · subst e; simp
  · rw [if_neg e, if_neg (by omega)]; omega
/-- One more than the greatest sign of the first k rows. -/
def topN (C : Nat) (zs : Nat → Nat → Int) : Nat → Nat
  | 0 => 0
  | k + 1 => if topN C zs k < (maxTo (zs k) (C - 1)).toNat + 1 then (maxTo (zs k) (C - 1)).toNat + 1 else topN C zs k
theorem topN_mono (C : Nat) (zs : Nat → Nat → Int) (k : Nat) : topN C zs k ≤ topN C zs (k + 1) := by
  simp only [topN]; split <;> omega
theorem topN_up (C : Nat) (zs : Nat → Nat → Int) {k : Nat} : ∀ {n : Nat}, k ≤ n → topN C zs k ≤ topN C zs n
  | 0, h => by obtain rfl : k = 0 := by omega
               exact Nat.le_refl _
  | n + 1, h => by
    rcases Nat.lt_or_ge n k with h1 | h1
    · obtain rfl : k = n + 1 := by omega
      exact Nat.le_refl _
    · exact Nat.le_trans (topN_up C zs h1) (topN_mono C zs n)
theorem topN_at {C : Nat} {zs : Nat → Nat → Int} {i n m : Nat} (hi : i < n) (hm : m < C) : (zs i m).toNat < topN C zs n := by
  have h1 := topN_up C zs (k := i + 1) (n := n) hi
  have h2 := maxTo_ge (zs i) (C - 1) m (by omega)
  have h3 : (maxTo (zs i) (C - 1)).toNat + 1 ≤ topN C zs (i + 1) := by
    simp only [topN]; split <;> omega
  omega
theorem row_max {z : Nat → Int} {C : Nat} (h : rowB z C = true) (h0 : 0 < C) : 0 ≤ maxTo z (C - 1) ∧ maxTo z (C - 1) < 16 := by
  obtain ⟨i, hi, e⟩ := maxTo_mem z (C - 1)
  rw [e]
  exact ((rowB_iff z C).1 h i (by omega)).1
theorem topN_le {C : Nat} {zs : Nat → Nat → Int} {n : Nat} (h : ∀ i, i < n → rowB (zs i) C = true) (h0 : 0 < C) : ∀ k, k ≤ n → topN C zs k ≤ 16
  | 0, _ => by simp [topN]
  | k + 1, hk => by
    have ih := topN_le h h0 k (by omega)
    have := row_max (h k (by omega)) h0
    simp only [topN]; split <;> omega

set_option maxRecDepth 100000 in
set_option maxHeartbeats 8000000 in
theorem waysOf_any (kv lv : Value) (n : Nat) (z : Nat → Int) (R : Nat) (vs : Nat → Value) (ns : Nat → Nat) (zs : Nat → Nat → Int) (w : World) (hk : NumsAt w kv n z) (hl : TabAt w lv R vs ns zs) (hok : OkC n z R ns zs) :
    Calls Tryd.prog 24 #[.agg #[kv, lv]] w fun e w' => ∃ g rb, e = .returned (.slice (some ⟨g, 0, none⟩) (ns 0) (ns 0)) ∧ GridB w w' g (ns 0) (topN (ns 0) zs n) (ns 0) rb (fun i s => .int .i64 (wayZ z zs i s n)) := by
  obtain rfl := hok.same
  have h0 := hok.w.posN
  have h16 := hok.few
  have hC0 := hok.len0
  have hC16 : ns 0 ≤ 16 := rowB_short (hok.row 0 h0)
  obtain ⟨pb, po, kc, rfl, hp⟩ : ∃ pb po cap, kv = .slice (some ⟨pb, po, none⟩) R cap ∧ RowAt w pb po R z := by
    rcases hk with ⟨_, _, _, h1⟩ | ⟨pb, po, cap, h1, _, h2⟩
    · omega
    · exact ⟨pb, po, cap, h1, h2⟩
  obtain ⟨b, o, lc, rfl, hr⟩ : ∃ b o cap', lv = .slice (some ⟨b, o, none⟩) R cap' ∧ ∀ i, i < R → ∃ rb ro rc, w.cell? ⟨b, o + i, none⟩ = some (.slice (some ⟨rb, ro, none⟩) (ns 0) rc) ∧ RowAt w rb ro (ns 0) (zs i) := by
    rcases hl with ⟨_, _, _, h1⟩ | ⟨b, o, cap', h1, _, h2⟩
    · omega
    · refine ⟨b, o, cap', h1, fun i hi => ?_⟩
      obtain ⟨h3, h4⟩ := h2 i hi
      rw [hok.len i hi] at h4
      rcases h4 with ⟨_, _, _, h5⟩ | ⟨rb, ro, rc, h5, _, h6⟩
      · omega
      · exact ⟨rb, ro, rc, by rw [h3, h5], h6⟩
  obtain ⟨w1, hw1⟩ : ∃ w1, w1 = w.alloc (.cells #[.slice (some ⟨pb, po, none⟩) R kc, .slice (some ⟨b, o, none⟩) R lc] 36) := ⟨_, rfl⟩
  have hb1 : Below w.heap.size w w1 := by rw [hw1]; exact (Below.refl _ _).alloc (Nat.le_refl _) _
  have hc0 : w1.cell? ⟨w.heap.size, 0, none⟩ = some (.slice (some ⟨pb, po, none⟩) R kc) := by rw [hw1]; go_simp
  have hc1 : w1.cell? ⟨w.heap.size, 1, none⟩ = some (.slice (some ⟨b, o, none⟩) R lc) := by rw [hw1]; go_simp
  have HB1 := Hid.mk' hb1
  have HW1 := Hid.mk' hw1
  have HC : Hid (∀ W, Below w1.heap.size w1 W → W.cell? ⟨w.heap.size, 0, none⟩ = some (.slice (some ⟨pb, po, none⟩) R kc) ∧ W.cell? ⟨w.heap.size, 1, none⟩ = some (.slice (some ⟨b, o, none⟩) R lc)) := fun W hb => ⟨by rw [hb.cell (cell_lt hc0)]; exact hc0, by rw [hb.cell (cell_lt hc1)]; exact hc1⟩
  have HP : Hid (∀ W, Below w1.heap.size w1 W → RowAt W pb po R z) := fun W hb => (hp.later hb1).later hb
  have HR : Hid (∀ i, i < R → ∃ rb ro rc, ∀ W, Below w1.heap.size w1 W → W.cell? ⟨b, o + i, none⟩ = some (.slice (some ⟨rb, ro, none⟩) (ns 0) rc) ∧ RowAt W rb ro (ns 0) (zs i)) := fun i hi => by
    obtain ⟨rb, ro, rc, h1, h2⟩ := hr i hi
    exact ⟨rb, ro, rc, fun W hb => ⟨by rw [(below_chS hb1 hb).cell (cell_lt h1)]; exact h1, h2.later (below_chS hb1 hb)⟩⟩
  have HTL : Hid (∀ k, k ≤ R → topN (ns 0) zs k ≤ 16) := fun k hk => topN_le hok.row hC0 k hk
  have HMX : Hid (∀ i, i < R → 0 ≤ maxTo (zs i) (ns 0 - 1) ∧ maxTo (zs i) (ns 0 - 1) < 16) := fun i hi => row_max (hok.row i hi) hC0
  have HTA : Hid (∀ i m, i < R → m < ns 0 → 0 ≤ zs i m ∧ (zs i m).toNat < topN (ns 0) zs R) := fun i m hi hm => by
    have h1 := ((rowB_iff _ _).1 (hok.row i hi) m hm).1
    exact ⟨h1.1, topN_at hi hm⟩
  have HWL : Hid (∀ m s k, k ≤ R → 0 ≤ wayZ z zs m s k ∧ wayZ z zs m s k ≤ 4096) := fun m s k hk => by
    have h1 := wayZ_le (zs := zs) (m := m) (s := s) hok.w.nn k hk
    have h2 := (hok.w.part hk).2
    exact ⟨h1.1, by omega⟩
  have HZ : Hid (∀ i, i < R → 0 ≤ z i ∧ z i ≤ 4096) := fun i hi => hok.w.lt hi
  obtain ⟨i0, hi, hz0, hz1, hz2⟩ := info_parts Tryd.infoInt
  have HINI : Hid (Tryd.prog.info? 3 = some i0 ∧ i0.zero = some (.int .i64 0) ∧ i0.size = 1 ∧ i0.bytes = 8) := ⟨hi, hz0, hz1, hz2⟩
  clear hi hz0 hz1 hz2
  obtain ⟨i1, hi, hz0, hz1, hz2⟩ := info_parts Tryd.infoIntsS
  have HINF : Hid (Tryd.prog.info? 22 = some i1 ∧ i1.zero = some (.slice none 0 0) ∧ i1.size = 1 ∧ i1.bytes = 24) := ⟨hi, hz0, hz1, hz2⟩
  clear hi hz0 hz1 hz2
  have hRI : (0 : Int) < (R : Int) := by omega
  clear hk hl hok hp hr hb1 hw1
  generalize ns 0 = C at *
  have hCI : (C : Int) ≤ 16 := by omega
  have hC0I : (0 : Int) < (C : Int) := by omega
  go_enter Tryd.func24, Tryd.ntmps24
  go_wp2_with fail
  rw [← HW1.out]
  go_loopw [3, 13] (fun s t wr => ∃ k : Nat, k ≤ R ∧ t = .int .i64 k ∧ s = .int .i64 (topN C zs k : Int) ∧ wr = w1) (fun _ t _ => R - (intOf t).toNat)
  case atStart => exact ⟨0, Nat.zero_le _, rfl, rfl, rfl⟩
  case round =>
    obtain ⟨k, hk, rfl, rfl, hwr⟩ := hrel
    rw [hwr]
    clear hwr wr
    rcases Nat.lt_or_ge k R with h1 | h1
    · have hkI : (k : Int) < (R : Int) := by omega
      have hk0 : (0 : Int) ≤ (k : Int) := by omega
      obtain ⟨rb, ro, rc, hrow⟩ := HR.out k h1
      obtain ⟨hcr, hrw⟩ := hrow w1 (Below.refl _ _)
      have hmx := Max_some rb ro rc C (zs k) w1 hrw hC0 (by omega)
      obtain ⟨hm0, hm1⟩ := HMX.out k h1
      have htl := HTL.out k hk
      have HTS : Hid (topN C zs (k + 1) = if topN C zs k < (maxTo (zs k) (C - 1)).toNat + 1 then (maxTo (zs k) (C - 1)).toNat + 1 else topN C zs k) := rfl
      obtain ⟨M, hM⟩ : ∃ M : Nat, maxTo (zs k) (C - 1) = (M : Int) := ⟨_, (Int.toNat_of_nonneg hm0).symm⟩
      rw [hM] at hmx hm1 HTS
      have hM16 : M < 16 := by omega
      clear hrow hrw hM hm0 hm1
      generalize topN C zs k = T at *
      have HTS' : Hid (topN C zs (k + 1) = if T < M + 1 then M + 1 else T) := by show _ = _; rw [HTS.out]; simp
      clear HTS
      by_cases hlt : T < M + 1
      · rw [if_pos hlt] at HTS'
        have hltI : (T : Int) < (M : Int) + 1 := by omega
        go_wp2_with fail
        refine hmx.mono ?_
        rintro e w2 ⟨rfl, hw2⟩
        rw [hw2]
        clear hw2 hmx
        go_wp2_with fail
        exact ⟨⟨k + 1, h1, by go_num, by rw [HTS'.out]; go_num, trivial⟩, by simp [intOf]; omega⟩
      · rw [if_neg hlt] at HTS'
        have hltI : ¬ (T : Int) < (M : Int) + 1 := by omega
        have hltJ : (M : Int) + 1 ≤ (T : Int) := by omega
        go_wp2_with fail
        refine hmx.mono ?_
        rintro e w2 ⟨rfl, hw2⟩
        rw [hw2]
        clear hw2 hmx
        go_wp2_with fail
        exact ⟨⟨k + 1, h1, by go_num, by first | (rw [HTS'.out]; done) | (rw [HTS'.out]; congr 1; omega), trivial⟩, by simp [intOf]; omega⟩
    · obtain rfl : R = k := by omega
      obtain ⟨rb0, ro0, rc0, hrow0⟩ := HR.out 0 h0
      have hcr0 := (hrow0 w1 (Below.refl _ _)).1
      rw [Nat.add_zero] at hcr0
      have hTL := HTL.out R (Nat.le_refl _)
      have HT16 : Hid (topN C zs R ≤ 16) := hTL
      obtain ⟨T, hTe⟩ : ∃ T, T = topN C zs R := ⟨_, rfl⟩
      rw [← hTe] at hTL HTA ⊢
      have HTE := Hid.mk' hTe
      clear hrow0 hTe HT16
      go_wp2_with (at_make; go_must (refine wpList_make_full _ rfl _ _ _ rfl w1.heap.size 22 i1 _ 1 Tryd.underlying23 HINF.out.1 HINF.out.2.1 HINF.out.2.2.1 .i64 .i64 _ _ C rfl rfl rfl rfl (by rw [HINF.out.2.2.2]; omega) (by unfold maxLen; omega) (Nat.le_refl _) ?_; intro w2 hown2 hgrow2; have HF2 : Hid (GridB w1 w2 w1.heap.size C T 0 (fun _ => 0) (fun _ _ => .int .i64 0)) := gridB_start (rowIs_made hown2 (made_one (.slice none 0 0) rfl C)) (made_below hgrow2) (Nat.le_refl _) _ _; clear hown2 hgrow2))
      go_loopw [31] (fun t wr => ∃ (m : Nat) (rb : Nat → Nat), m ≤ C ∧ t = .int .i64 m ∧ Hid (GridB w1 wr w1.heap.size C T m rb (fun i s => .int .i64 (wayZ z zs i s R)))) (fun t _ => C - (intOf t).toNat)
      case atStart => exact ⟨0, _, Nat.zero_le _, rfl, Hid.mk' (HF2.out.cast fun i k hi => by omega)⟩
      case round =>
        clear HF2 hcr0
        obtain ⟨m, rb, hm, rfl, HG⟩ := hrel
        rcases Nat.lt_or_ge m C with h2 | h2
        · have hmI : (m : Int) < (C : Int) := by omega
          have hm0 : (0 : Int) ≤ (m : Int) := by omega
          obtain ⟨wo, hwo⟩ : ∃ wo, wo = wr := ⟨_, rfl⟩
          rw [← hwo] at HG ⊢
          clear hwo
          obtain ⟨xo, hxo⟩ := HG.out.outer m h2
          have hfo := HG.out.ofz m h2
          go_upto_region 12 with (at_make; go_must (refine wpList_make_full _ rfl _ _ _ rfl wo.heap.size 3 i0 _ 1 Tryd.underlying22 HINI.out.1 HINI.out.2.1 HINI.out.2.2.1 .i64 .i64 _ _ T rfl rfl rfl rfl (by rw [HINI.out.2.2.2]; omega) (by unfold maxLen; omega) (Nat.le_refl _) ?_; intro w3 hown3 hgrow3; have hmb := made_below hgrow3; have hlt3 := made_lt hown3; have HG3 := Hid.mk' (HG.out.push h2 hmb (Nat.le_refl _) hlt3 (rowIs_made hown3 (made_zero T))); obtain ⟨xo3, hxo3⟩ := (HG.out.later hmb).outer m h2; have hfo3 := (HG.out.later hmb).ofz m h2; clear hown3 hgrow3 hmb hlt3))
          obtain ⟨w4, hw4⟩ : ∃ w4, w4 = w3.setCell ⟨w1.heap.size, m, none⟩ (.slice (some ⟨wo.heap.size, 0, none⟩) T T) := ⟨_, rfl⟩
          obtain ⟨rb2, hrb2⟩ : ∃ rb2, rb2 = fun i => if i = m then wo.heap.size else rb i := ⟨_, rfl⟩
          rw [← hw4, ← hrb2] at HG3
          rw [← hw4]
          have HQ : Hid (rb2 m = wo.heap.size) := by show _ = _; rw [hrb2]; simp
          obtain ⟨q, hq⟩ : ∃ q, q = wo.heap.size := ⟨_, rfl⟩
          rw [← hq] at HQ ⊢
          have hb4 := HG3.out.below
          have hx1 := (HC.out w4 hb4).2
          clear hw4 hrb2 hxo hfo hxo3 hfo3 hq HG
          go_wp2_with fail
          clear hx1 hb4
          go_loopw [42] (fun t wx => ∃ k : Nat, k ≤ R ∧ t = .int .i64 k ∧ Hid (GridB w1 wx w1.heap.size C T (m + 1) rb2 (fun i s => .int .i64 (if i = m then wayZ z zs m s k else wayZ z zs i s R)))) (fun t _ => R - (intOf t).toNat)
          case atStart => exact ⟨0, Nat.zero_le _, rfl, Hid.mk' (HG3.out.cast fun i s _ _ => by by_cases e : i = m <;> simp [e, wayZ])⟩
          case round =>
            clear HG3
            obtain ⟨k, hk, rfl, HX⟩ := hrel
            rcases Nat.lt_or_ge k R with h3 | h3
            · have hkI : (k : Int) < (R : Int) := by omega
              have hk0 : (0 : Int) ≤ (k : Int) := by omega
              have hbx := HX.out.below
              obtain ⟨rb5, ro5, rc5, hrow⟩ := HR.out k h3
              obtain ⟨hcr, hrw⟩ := hrow wr hbx
              obtain ⟨hs0, hsT⟩ := HTA.out k m h3 h2
              obtain ⟨s, hs⟩ : ∃ s : Nat, zs k m = (s : Int) := ⟨_, (Int.toNat_of_nonneg hs0).symm⟩
              have hcs := hrw m h2
              rw [hs] at hcs hsT
              have hsT' : s < T := by omega
              have hsI : (s : Int) < (T : Int) := by omega
              have hsp : (0 : Int) ≤ (s : Int) := by omega
              have hck := HP.out wr hbx k h3
              have hx0 := (HC.out wr hbx).1
              have hx1 := (HC.out wr hbx).2
              have hmd := HX.out.made m (by omega)
              have hcell := (HX.out.rows m (by omega)).row s hsT'
              have hfz := (HX.out.rows m (by omega)).fz s hsT'
              rw [if_pos rfl] at hcell
              have HN := Hid.mk' (HX.out.set (i := m) (k := s) (by omega) hsT' (.int .i64 (wayZ z zs m s k + z k)) (f' := fun i t => .int .i64 (if i = m then wayZ z zs m t (k + 1) else wayZ z zs i t R)) (fun i t _ _ => by
                by_cases e : i = m
                · rw [if_pos e, wayZ_next hs]
                  by_cases e2 : t = s
                  · rw [if_pos e2, if_pos ⟨e, e2⟩]
                  · rw [if_neg e2, if_neg (fun h => e2 h.2), if_pos e]
                · rw [if_neg e, if_neg (fun h => e h.1), if_neg e]))
              rw [HQ.out] at hmd hcell hfz HN
              have hwl := HWL.out m s k hk
              have hzk := HZ.out k h3
              generalize wayZ z zs m s k = y at *
              generalize z k = x at *
              clear hrow hrw hs hs0 hsT hbx HX
              go_wp2_with fail
              go_region
              all_goals
                go_wp2_with fail
                exact ⟨⟨k + 1, h3, by go_num, HN.out.drewN⟩, by simp [intOf]; omega⟩
            · obtain rfl : k = R := by omega
              go_wp2_with fail
              exact ⟨⟨m + 1, rb2, h2, by go_num, Hid.mk' (HX.out.cast fun i s _ _ => by by_cases e : i = m <;> simp [e])⟩, by simp [intOf]; omega⟩
        · obtain rfl : C = m := by omega
          go_wp2_with fail
          go_ret
          exact ⟨_, rb, rfl, by rw [← HTE.out]; exact HG.out.base HB1.out⟩
end Go.Proofs.YtdlbnolnkmhdcaaDoor
