/- The program's oneSum. -/
import Derived.Test.YtnihclkaaglnjaaGreatDoorBhRt
import Derived.Test.YtnihclkaaglnjaaGreatDoorCnFr
import Derived.Test.YtnihclkaaglnjaaGreatDoorWeights
import Derived.Test.YtnihclkaaglnjaaGreatDoorLastOp
namespace Go.Proofs.YtnihclkaaglnjaaGreatDoor
open Go.RowKit

theorem Tryz.infoNw : (Tryz.prog.info? 82).map (fun i => (i.zero, i.size, i.bytes)) = some (some (.slice none 0 0), 1, 24) := by kernel_rfl
theorem Tryz.infoNws : (Tryz.prog.info? 85).map (fun i => (i.zero, i.size, i.bytes)) = some (some (.slice none 0 0), 1, 24) := by kernel_rfl
theorem NatAt.sl {w : World} {v : Value} {n : Nat} (h : NatAt w v n) : ∃ a l c, v = .slice a l c := by
  obtain ⟨l, _, _, _, h4⟩ := h
  obtain ⟨ad, cap, rfl⟩ := h4.form
  exact ⟨_, _, _, rfl⟩
set_option maxRecDepth 100000 in
theorem Times_by0 (u : Value) (n : Nat) (w : World) (h : NatAt w u n) :
    Calls Tryz.prog 46 #[u, .int .u64 0] w fun e w' => ∃ v, e = .returned v ∧ NatAt w' v (n * 0) ∧ Below w.heap.size w w' := by
  obtain ⟨ad, l, cap, rfl⟩ := h.sl
  clear h
  go_enter Tryz.func46, Tryz.ntmps46
  go_wp2_with fail
  go_ret
  exact ⟨_, rfl, ⟨[], fun i hi => by simp at hi, fun i hi => by simp at hi, by simp [wv], Or.inl ⟨_, _, rfl, rfl⟩⟩, Below.refl _ _⟩
theorem Times_by (u : Value) (n m k : Nat) (w : World) (h : NatAt w u n) (hm : m < 18446744073709551616) (hk : n < 18446744073709551616 ^ k) (hk6 : k ≤ 1000000) :
    Calls Tryz.prog 46 #[u, .int .u64 m] w fun e w' => ∃ v, e = .returned v ∧ NatAt w' v (n * m) ∧ Below w.heap.size w w' := by
  rcases Nat.eq_zero_or_pos m with rfl | hm0
  · exact Times_by0 u n w h
  · exact Times_any u n m k w h hm0 hm hk hk6
/-- The product of all sums but one. -/
def othP (S : Nat → Nat) (i : Nat) : Nat → Nat
  | 0 => 1
  | k + 1 => if k = i then othP S i k else othP S i k * S k
theorem othP_le {S : Nat → Nat} {i : Nat} : ∀ {k : Nat}, (∀ j, j < k → S j ≤ 256) → othP S i k ≤ 256 ^ k
  | 0, _ => Nat.le_refl _
  | k + 1, h => by
    have h1 := othP_le (i := i) (k := k) fun j hj => h j (by omega)
    show (if k = i then othP S i k else othP S i k * S k) ≤ _
    rw [Nat.pow_succ]
    split
    · exact Nat.le_trans h1 (Nat.le_mul_of_pos_right _ (by decide))
    · exact Nat.mul_le_mul h1 (h k (by omega))
theorem othP_room {S : Nat → Nat} {i k : Nat} (hk : k ≤ 16) (h : ∀ j, j < k → S j ≤ 256) : othP S i k < 18446744073709551616 ^ 3 :=
  Nat.lt_of_le_of_lt (Nat.le_trans (othP_le h) (Nat.pow_le_pow_right (by decide) hk)) (by decide)
/-- Some rows are made. -/
structure OGrid (w W1 wr : World) (R C i : Nat) (F : Nat → Value) (V : Nat → Nat → Nat) : Prop where
  below : Below w.heap.size w wr
  size : W1.heap.size ≤ wr.heap.size
  row : RowIs wr w.heap.size R F
  none : ∀ j, i ≤ j → j < R → F j = .slice none 0 0
  made : ∀ j, j < i → NatsW W1.heap.size wr.heap.size wr (F j) C (V j)
theorem OGrid.later {w W1 wr w' : World} {R C i : Nat} {F : Nat → Value} {V : Nat → Nat → Nat} (h : OGrid w W1 wr R C i F V) (hb : Below wr.heap.size wr w') : OGrid w W1 w' R C i F V :=
  ⟨below_chain h.below hb, Nat.le_trans h.size hb.size, h.row.later hb, h.none, fun j hj => ((h.made j hj).later hb).wide hb.size⟩
/-- One row grows. -/
structure ORow (w W1 wi wr : World) (R C i k : Nat) (F : Nat → Value) (V : Nat → Nat → Nat) (v : Value) (cs : List Value) (tv : Value) (T : Nat) : Prop where
  below : Below w.heap.size w wr
  size : wi.heap.size ≤ wr.heap.size
  row : RowIs wr w.heap.size R F
  at' : F i = v
  sl : ∃ a l c, v = .slice a l c
  none : ∀ j, i < j → j < R → F j = .slice none 0 0
  made : ∀ j, j < i → NatsW W1.heap.size wi.heap.size wr (F j) C (V j)
  own : NwOwn wi.heap.size wr v k (V i) cs
  nat : NatAt wr tv T
theorem ORow.later {w W1 wi wr w' : World} {R C i k : Nat} {F : Nat → Value} {V : Nat → Nat → Nat} {v : Value} {cs : List Value} {tv : Value} {T : Nat} (h : ORow w W1 wi wr R C i k F V v cs tv T) (hb : Below wr.heap.size wr w') : ORow w W1 wi w' R C i k F V v cs tv T :=
  ⟨below_chain h.below hb, Nat.le_trans h.size hb.size, h.row.later hb, h.at', h.sl, h.none, fun j hj => (h.made j hj).later hb, h.own.later hb, h.nat.later hb⟩
theorem ORow.step {w W1 wi wr w' : World} {R C i k : Nat} {F : Nat → Value} {V : Nat → Nat → Nat} {v : Value} {cs : List Value} {tv : Value} {T : Nat} {u : Value} {g cap : Nat} (h : ORow w W1 wi wr R C i k F V v cs tv T) (hi : i < R) (hW : w.heap.size < W1.heap.size) (hWi : W1.heap.size ≤ wi.heap.size) (hu : NatAt wr u (V i k))
    (hown : w'.ownsRow wi.heap.size 82 1 (.slice (some ⟨g, 0, .none⟩) (k + 1) cap) (k + 1) (cs ++ [u])) (hg : wr.grownBy w' v.ownBlock) (hC : AllP notU w' g) :
    (w'.cell? ⟨w.heap.size, i, .none⟩ = some v ∧ w'.frozen? ⟨w.heap.size, i, .none⟩ = false) ∧ ORow w W1 wi (w'.setCell ⟨w.heap.size, i, .none⟩ (.slice (some ⟨g, 0, .none⟩) (k + 1) cap)) R C i (k + 1) (fun j => if j = i then .slice (some ⟨g, 0, .none⟩) (k + 1) cap else F j) V (.slice (some ⟨g, 0, .none⟩) (k + 1) cap) (cs ++ [u]) tv T := by
  have hlo : ∀ b, v.ownBlock = some b → wi.heap.size ≤ b := fun b hb => (h.own.own.lt b hb).1
  have hrow : RowIs w' w.heap.size R F := ⟨fun j hj => by
      rw [hg.cell_far _ (cell_lt (h.row.row j hj)) (fun e => by have := hlo _ e.symm; simp at this; omega)]; exact h.row.row j hj,
    fun j hj => by rw [hg.frozen_far _ (cell_lt (h.row.row j hj)) (fun e => by have := hlo _ e.symm; simp at this; omega)]; exact h.row.fz j hj⟩
  have hcell := hrow.row i hi
  rw [h.at'] at hcell
  have hnu : notU v := by
    obtain ⟨a, l, c, rfl⟩ := h.sl
    intro x e
    cases e
  have hk := kept_grown hg h.own.clean
  have hkp := kept_put (y := .slice (some ⟨g, 0, .none⟩) (k + 1) cap) hcell hnu
  have hsz : wr.heap.size ≤ w'.heap.size := ((Below.refl 0 wr).grown hg (Nat.zero_le _) (fun _ _ => Nat.zero_le _)).size
  have hsz2 : w'.heap.size ≤ (w'.setCell ⟨w.heap.size, i, .none⟩ (.slice (some ⟨g, 0, .none⟩) (k + 1) cap)).heap.size := ((Below.refl 0 w').setCell (p := ⟨w.heap.size, i, .none⟩) (Nat.zero_le _) _).size
  refine ⟨⟨hcell, hrow.fz i hi⟩, ?_, by have := h.size; omega, hrow.setF hi _ (fun j _ => rfl), by rw [if_pos rfl], ⟨_, _, _, rfl⟩, fun j h1 h2 => by rw [if_neg (by omega)]; exact h.none j h1 h2, fun j hj => ?_, ?_, (h.nat.kept hk).kept hkp⟩
  · exact (h.below.grown hg h.below.size (fun b hb => by have := hlo b hb; omega)).setCell (Nat.le_refl _) _
  · rw [if_neg (by omega)]
    refine ((h.made j hj).kept hk (fun b o x _ h2 hx => ?_)).kept hkp (fun b o x h1 _ hx => ?_)
    · rw [hg.cell_far _ (cell_lt hx) (fun e => by have := hlo _ e.symm; simp at this; omega)]; exact hx
    · rw [World.cell?_setCell_other _ _ _ _ (fun e => by have := congrArg Addr.block e; simp at this; omega)]; exact hx
  · exact (h.own.push h.own.len hu rfl hown hg hC).put hcell hnu _ (by show w.heap.size < _; omega)
theorem NatsW.low {lo lo2 hi : Nat} {w : World} {v : Value} {n : Nat} {V : Nat → Nat} (h : NatsW lo hi w v n V) (hh : lo2 ≤ lo) : NatsW lo2 hi w v n V := by
  obtain ⟨b, cap, u, hv, h1, h2, hr⟩ := h
  exact ⟨b, cap, u, hv, by omega, h2, hr⟩
theorem OGrid.begin {w W1 wr wi : World} {R C i : Nat} {F : Nat → Value} {V : Nat → Nat → Nat} {tv : Value} {T : Nat} (h : OGrid w W1 wr R C i F V) (hi : i < R) (hb : Below wr.heap.size wr wi) (ht : NatAt wi tv T) : ORow w W1 wi wi R C i 0 F V (.slice .none 0 0) [] tv T :=
  have h2 := h.later hb
  ⟨h2.below, Nat.le_refl _, h2.row, h2.none i (Nat.le_refl _) hi, ⟨_, _, _, rfl⟩, fun j h1 h3 => h2.none j (by omega) h3, h2.made, nwOwn_nil _ _ _, ht⟩
theorem ORow.end' {w W1 wi wr : World} {R C i : Nat} {F : Nat → Value} {V : Nat → Nat → Nat} {v : Value} {cs : List Value} {tv : Value} {T : Nat} (h : ORow w W1 wi wr R C i C F V v cs tv T) (hC : 0 < C) (hW : W1.heap.size ≤ wi.heap.size) : OGrid w W1 wr R C (i + 1) F V :=
  ⟨h.below, Nat.le_trans hW h.size, h.row, fun j h1 h2 => h.none j (by omega) h2, fun j hj => by
    rcases Nat.lt_or_ge j i with h1 | h1
    · exact (h.made j h1).wide h.size
    · obtain rfl : j = i := by omega
      rw [h.at']
      exact (h.own.nats hC).low hW⟩

set_option maxRecDepth 100000 in
set_option maxHeartbeats 8000000 in
theorem oneSum_any (v : Value) (R : Nat) (vs : Nat → Value) (ns : Nat → Nat) (zs : Nat → Nat → Int) (C : Nat) (w : World) (h : TabAt w v R vs ns zs) (hns : ∀ i, i < R → ns i = C) (hR0 : 0 < R) (hR : R ≤ 16) (hC0 : 0 < C) (hC : C ≤ 16) (hz : ∀ i, i < R → ∀ k, k < C → 0 ≤ zs i k) (hS : ∀ i, i < R → sumN (zs i) C ≤ 256) :
    Calls Tryz.prog 20 #[v] w fun e w' => ∃ (F : Nat → Value) (lo : Nat), e = .returned (.slice (some ⟨w.heap.size, 0, none⟩) R R) ∧ w.heap.size < lo ∧ (∀ j, j < R → w'.cell? ⟨w.heap.size, j, none⟩ = some (F j)) ∧ (∀ j, j < R → NatsW lo w'.heap.size w' (F j) C (fun k => othP (fun l => (sumN (zs l) C).toNat) j R * (zs j k).toNat)) ∧ Below w.heap.size w w' := by
  obtain ⟨i1, hi, hz0, hz1, hz2⟩ := info_parts Tryz.infoNws
  have HI1 : Hid (Tryz.prog.info? 85 = some i1 ∧ i1.zero = some (.slice none 0 0) ∧ i1.size = 1 ∧ i1.bytes = 24) := ⟨hi, hz0, hz1, hz2⟩
  clear hi hz0 hz1 hz2
  obtain ⟨i0, hi, hz0, hz1, hz2⟩ := info_parts Tryz.infoNw
  have HINF : Hid (Tryz.prog.info? 82 = some i0 ∧ i0.zero = some (.slice none 0 0) ∧ i0.size = 1 ∧ i0.bytes = 24) := ⟨hi, hz0, hz1, hz2⟩
  clear hi hz0 hz1 hz2
  have HZ := Hid.mk' hz
  have HSB : Hid (∀ i, i < R → (sumN (zs i) C).toNat ≤ 256) := fun i hi => by have := hS i hi; omega
  have HPT : Hid (∀ i, i < R → ∀ k, k ≤ C → 0 ≤ sumN (zs i) k ∧ sumN (zs i) k ≤ 256) := fun i hi k hk => by
    have h1 := sumN_mono (z := zs i) (fun j hj => hz i hi j hj) (k := k) (n := C) hk
    have h2 := sumN_nonneg (z := zs i) (n := k) (fun j hj => hz i hi j (by omega))
    have h3 := hS i hi
    exact ⟨h2, by omega⟩
  have HX : Hid (∀ i, i < R → ∀ k, k < C → zs i k ≤ 256) := fun i hi k hk => by
    have h1 := sumN_ge (z := zs i) (fun j hj => hz i hi j hj) hk
    have h3 := hS i hi
    omega
  obtain ⟨b, o, cap, rfl, hrows⟩ : ∃ b o cap, v = .slice (some ⟨b, o, none⟩) R cap ∧ ∀ i, i < R → w.cell? ⟨b, o + i, none⟩ = some (vs i) ∧ NumsAt w (vs i) (ns i) (zs i) := by
    rcases h with ⟨_, _, _, h1⟩ | ⟨b, o, cap, h1, _, h2⟩
    · omega
    · exact ⟨b, o, cap, h1, h2⟩
  have HROW : Hid (∀ i, i < R → ∃ rb ro rcap, ∀ W, Below w.heap.size w W → W.cell? ⟨b, o + i, none⟩ = some (.slice (some ⟨rb, ro, none⟩) C rcap) ∧ RowAt W rb ro C (zs i)) := fun i hi => by
    obtain ⟨h1, h2⟩ := hrows i hi
    rw [hns i hi] at h2
    rcases h2 with ⟨_, _, _, h3⟩ | ⟨rb, ro, rcap, h3, _, h4⟩
    · omega
    · rw [h3] at h1
      exact ⟨rb, ro, rcap, fun W hb => ⟨by rw [hb.cell (cell_lt h1)]; exact h1, h4.later hb⟩⟩
  clear h hns hz hS hrows
  generalize hSf : (fun l => (sumN (zs l) C).toNat) = S at *
  have HS : Hid (∀ l, S l = (sumN (zs l) C).toNat) := fun l => by rw [← hSf]
  clear hSf
  have HOB : Hid (∀ i k, k ≤ R → othP S i k < 18446744073709551616 ^ 3) := fun i k hk => othP_room (by omega) fun j hj => by rw [HS.out]; exact HSB.out j (by omega)
  generalize hV : (fun j k => othP S j R * (zs j k).toNat) = V
  have HV : Hid (∀ j k, V j k = othP S j R * (zs j k).toNat) := fun j k => by rw [← hV]
  have HVE : Hid (∀ j, (fun k => othP S j R * (zs j k).toNat) = V j) := fun j => by rw [← hV]
  clear hV
  go_enter Tryz.func20, Tryz.ntmps20
  go_wp2_with (at_make; go_must (refine wpList_make_full _ rfl _ _ _ rfl w.heap.size 85 i1 _ 1 Tryz.underlying50 HI1.out.1 HI1.out.2.1 HI1.out.2.2.1 .i64 .i64 _ _ R rfl rfl rfl rfl (by rw [HI1.out.2.2.2]; omega) (by unfold maxLen; omega) (Nat.le_refl _) ?_; intro W1 hown2 hgrow2; have HF2 := Hid.mk' (rowIs_made hown2 (made_one (.slice none 0 0) rfl R)); have HB2 := Hid.mk' (made_below hgrow2); clear hown2 hgrow2))
  have hW1 : w.heap.size < W1.heap.size := cell_lt (HF2.out.row 0 hR0)
  go_loopw [16] (fun t wr => ∃ (i : Nat) (F : Nat → Value), i ≤ R ∧ t = .int .i64 i ∧ Hid (OGrid w W1 wr R C i F V)) (fun t _ => R - (intOf t).toNat)
  case atStart => exact ⟨0, _, Nat.zero_le _, rfl, ⟨HB2.out, Nat.le_refl _, HF2.out, fun _ _ _ => rfl, fun j hj => by omega⟩⟩
  case round =>
    clear HF2 HB2
    obtain ⟨i, F, hi, rfl, HG⟩ := hrel
    rcases Nat.lt_or_ge i R with h1 | h1
    · have hiI : (i : Int) < (R : Int) := by omega
      have hi0 : (0 : Int) ≤ (i : Int) := by omega
      obtain ⟨rb, ro, rcap, hrw⟩ := HROW.out i h1
      have HRW := Hid.mk' hrw
      clear hrw
      have hc := (HRW.out wr HG.out.below).1
      go_wp2_with fail
      refine (NatOf_any 1 wr (by decide) (by decide)).mono ?_
      rintro e w3 ⟨t3, rfl, ht3, hb3⟩
      obtain ⟨ta, tl, tc, rfl⟩ := ht3.sl
      have HT3 := Hid.mk' ht3
      have HB3 := Hid.mk' hb3
      clear ht3 hb3 hc
      obtain ⟨wo, hwo⟩ : ∃ wo, wo = wr := ⟨_, rfl⟩
      rw [← hwo] at HG HB3
      clear hwo
      go_wp2_with fail
      go_loopw [6, 24] (fun s t wr => ∃ (k : Nat) (a : Option Addr) (l c : Nat), k ≤ R ∧ t = .int .i64 k ∧ s = .slice a l c ∧ Hid (NatAt wr (.slice a l c) (othP S i k)) ∧ Hid (Below wo.heap.size wo wr)) (fun _ t _ => R - (intOf t).toNat)
      case atStart => exact ⟨0, _, _, _, Nat.zero_le _, rfl, rfl, HT3, HB3⟩
      case round =>
        clear HT3 HB3
        obtain ⟨k, ta, tl, tc, hk, rfl, rfl, HT, HB⟩ := hrel
        have hBW := below_chain HG.out.below HB.out
        rcases Nat.lt_or_ge k R with h2 | h2
        · have hkI : (k : Int) < (R : Int) := by omega
          have hk0 : (0 : Int) ≤ (k : Int) := by omega
          obtain ⟨rb2, ro2, rcap2, hrw2⟩ := HROW.out k h2
          obtain ⟨hc2, hr2⟩ := hrw2 wr hBW
          have HOT : Hid (othP S i (k + 1) = if k = i then othP S i k else othP S i k * S k) := rfl
          by_cases hki : k = i
          · rw [if_pos hki] at HOT
            subst hki
            clear hrw2 hr2 hBW
            go_wp2_with fail
            exact ⟨⟨k + 1, _, _, _, h2, by go_num, rfl, by rw [HOT.out]; exact HT, HB⟩, by simp [intOf]; omega⟩
          · rw [if_neg hki] at HOT
            have hkiI : ¬ (k : Int) = (i : Int) := by omega
            have htot := total_some rb2 ro2 rcap2 C (zs k) wr hr2 (fun j hj => by have := HPT.out k h2 j hj; omega) (fun j hj => by have := HZ.out k h2 j hj; have := HX.out k h2 j hj; omega) (by omega)
            have hsk := HS.out k
            have hsb := HSB.out k h2
            have hsn := (HPT.out k h2 C (Nat.le_refl _)).1
            have hse : sumN (zs k) C = (S k : Int) := by rw [hsk]; omega
            rw [hse] at htot
            have hsb2 : S k ≤ 256 := by rw [hsk]; exact hsb
            generalize S k = sk at *
            have hwr : IntKind.u64.wrap (sk : Int) = (sk : Int) := by rw [IntKind.wrap_u64]; exact Int.emod_eq_of_lt (by omega) (by omega)
            have htm := Times_by (.slice ta tl tc) (othP S i k) sk 3 wr HT.out (by omega) (HOB.out i k hk) (by decide)
            clear hrw2 hr2 hBW hsk hsb hsn hse
            go_wp2_with fail
            refine htot.mono ?_
            rintro e w4 ⟨rfl, hw4⟩
            rw [hw4]
            clear hw4 htot w4
            go_wp2_with fail
            refine htm.mono ?_
            clear htm
            rintro e w5 ⟨v5, rfl, hv5, hb5⟩
            obtain ⟨a5, l5, c5, rfl⟩ := hv5.sl
            have HN5 := Hid.mk' hv5
            have HB5 := Hid.mk' (below_chain HB.out hb5)
            clear hv5 hb5 hc2
            go_wp2_with fail
            exact ⟨⟨k + 1, _, _, _, h2, by go_num, rfl, by rw [HOT.out]; exact HN5, HB5⟩, by simp [intOf]; omega⟩
        · obtain rfl : k = R := by omega
          have HOR0 := Hid.mk' (HG.out.begin h1 HB.out HT.out)
          have hWi : W1.heap.size ≤ wr.heap.size := Nat.le_trans HG.out.size HB.out.size
          obtain ⟨wi, hwi⟩ : ∃ wi, wi = wr := ⟨_, rfl⟩
          rw [← hwi] at HOR0 hWi ⊢
          clear hwi hBW HT HB HG
          go_wp2_with fail
          go_loopw [40] (fun t wr => ∃ (m : Nat) (F : Nat → Value) (va : Option Addr) (vl vc : Nat) (cs : List Value), m ≤ C ∧ t = .int .i64 m ∧ Hid (ORow w W1 wi wr k C i m F V (.slice va vl vc) cs (.slice ta tl tc) (othP S i k))) (fun t _ => C - (intOf t).toNat)
          case atStart => exact ⟨0, _, _, _, _, _, Nat.zero_le _, rfl, HOR0⟩
          case round =>
            clear HOR0
            obtain ⟨m, F, va, vl, vc, cs, hm, rfl, HO⟩ := hrel
            rcases Nat.lt_or_ge m C with h3 | h3
            · have hmI : (m : Int) < (C : Int) := by omega
              have hm0 : (0 : Int) ≤ (m : Int) := by omega
              have hx := (HRW.out wr HO.out.below).2 m h3
              have hx0 := HZ.out i h1 m h3
              have hx1 := HX.out i h1 m h3
              have HVM := Hid.mk' (HV.out i m)
              obtain ⟨x, hxe⟩ : ∃ x : Nat, zs i m = (x : Int) := ⟨(zs i m).toNat, by omega⟩
              rw [hxe] at hx hx0 hx1 HVM
              rw [Int.toNat_natCast] at HVM
              clear hxe
              have hwx : IntKind.u64.wrap (x : Int) = (x : Int) := by rw [IntKind.wrap_u64]; exact Int.emod_eq_of_lt (by omega) (by omega)
              have HTI : Hid (∀ W, Below wr.heap.size wr W → Calls Tryz.prog 46 #[.slice ta tl tc, .int .u64 (x : Int)] W fun e w' => ∃ v, e = .returned v ∧ NatAt w' v (V i m) ∧ Below W.heap.size W w') := fun W hb => by
                rw [HVM.out]
                exact Times_by (.slice ta tl tc) (othP S i k) x 3 W (HO.out.nat.later hb) (by omega) (HOB.out i k (Nat.le_refl _)) (by decide)
              have y0 := HO.out.row.row i h1
              rw [HO.out.at'] at y0
              have HKS : Hid (∀ W, Below wr.heap.size wr W → W.cell? ⟨w.heap.size, i, none⟩ = some (.slice va vl vc)) := fun W hb => by rw [hb.cell (cell_lt y0)]; exact y0
              have hcur : Below wr.heap.size wr wr.drew := (Below.refl _ _).drew
              clear y0
              go_wp2_with fail
              refine region_but_last (n := 13) (S := fun W => W.cell? ⟨w.heap.size, i, none⟩ = some (.slice va vl vc)) (by kernel_rfl) (by kernel_rfl) (by kernel_rfl) (HKS.out _ hcur) (fun hHeld => ?_)
              refine wpAnyH_take (i := 0) (v := ?v0a) rfl (by kernel_rfl) (by kernel_rfl) (by kernel_rfl) (fun _ _ _ h => h) (Or.inl ⟨by rfl, ?hy0a⟩) (by assumption) ?rest0a
              case hy0a => (intro w hSw; (try dsimp only at hSw); go_simp <;> (try with_reducible rfl))
              simp only [Act.put]
              refine wpAnyH_take (i := 1) (v := ?v1a) rfl (by kernel_rfl) (by kernel_rfl) (by kernel_rfl) (fun _ _ _ h => h) (Or.inl ⟨by rfl, ?hy1a⟩) (by assumption) ?rest1a
              case hy1a => (intro w hSw; (try dsimp only at hSw); go_simp <;> (try with_reducible rfl))
              simp only [Act.put]
              refine wpAnyH_take (i := 2) (v := ?v2a) rfl (by kernel_rfl) (by kernel_rfl) (by kernel_rfl) (fun _ _ _ h => h) (Or.inl ⟨by rfl, ?hy2a⟩) (by assumption) ?rest2a
              case hy2a => (intro w hSw; (try dsimp only at hSw); go_simp <;> (try with_reducible rfl))
              simp only [Act.put]
              refine wpAnyH_take (i := 3) (v := ?v3a) rfl (by kernel_rfl) (by kernel_rfl) (by kernel_rfl) (fun _ _ _ h => h) (Or.inl ⟨by rfl, ?hy3a⟩) (by assumption) ?rest3a
              case hy3a => (intro w hSw; (try dsimp only at hSw); go_simp <;> (try with_reducible rfl))
              simp only [Act.put]
              refine wpAnyH_take (i := 4) (v := ?v4a) rfl (by kernel_rfl) (by kernel_rfl) (by kernel_rfl) (fun _ _ _ h => h) (Or.inl ⟨by rfl, ?hy4a⟩) (by assumption) ?rest4a
              case hy4a => (intro w hSw; (try dsimp only at hSw); go_simp <;> (try with_reducible rfl))
              simp only [Act.put]
              refine wpAnyH_take (i := 5) (v := ?v5a) rfl (by kernel_rfl) (by kernel_rfl) (by kernel_rfl) (fun _ _ _ h => h) (Or.inl ⟨by rfl, ?hy5a⟩) (by assumption) ?rest5a
              case hy5a => (intro w hSw; (try dsimp only at hSw); go_simp <;> (try with_reducible rfl))
              simp only [Act.put]
              refine wpAnyH_take (i := 6) (v := ?v6a) rfl (by kernel_rfl) (by kernel_rfl) (by kernel_rfl) (fun _ _ _ h => h) (Or.inl ⟨by rfl, ?hy6a⟩) (by assumption) ?rest6a
              case hy6a => (intro w hSw; (try dsimp only at hSw); go_simp <;> (try with_reducible rfl))
              simp only [Act.put]
              refine wpAnyH_take (i := 7) (v := ?v7a) rfl (by kernel_rfl) (by kernel_rfl) (by kernel_rfl) (fun _ _ _ h => h) (Or.inl ⟨by rfl, ?hy7a⟩) (by assumption) ?rest7a
              case hy7a => (intro w hSw; (try dsimp only at hSw); go_simp <;> (try with_reducible rfl))
              simp only [Act.put]
              refine wpAnyH_take (i := 8) (v := ?v8a) rfl (by kernel_rfl) (by kernel_rfl) (by kernel_rfl) (fun _ _ _ h => h) (Or.inl ⟨by rfl, ?hy8a⟩) (by assumption) ?rest8a
              case hy8a => (intro w hSw; (try dsimp only at hSw); go_simp <;> (try with_reducible rfl))
              simp only [Act.put]
              refine wpAnyH_ready (rs := [9]) (by kernel_rfl) (by simp) ?_
              refine AllReadyH.cons rfl (fun K hK => ?_) AllReadyH.nil
              go_simp
              refine (HTI.out _ hcur).mono ?_
              rintro e x1 ⟨uv, rfl, huv, hb1⟩
              obtain ⟨ua, ul, uc, rfl⟩ := huv.sl
              have hcur := below_chain hcur hb1
              have hcurA : Below wr.heap.size wr (x1.alloc (.cells #[.slice ua ul uc] 82)) := hcur.alloc hcur.size _
              have HXA := Hid.mk' (huv.later ((Below.refl _ _).alloc (Nat.le_refl _) (.cells #[.slice ua ul uc] 82)))
              have HOA := Hid.mk' (HO.out.later hcurA)
              clear huv hb1
              go_wp2_with fail
              refine hK.out _ _ ?_ (fun hHeld => ?_)
              · exact HKS.out _ hcur
              clear hK K
              refine wpAnyH_ready (rs := [10]) (by kernel_rfl) (by simp) ?_
              refine AllReadyH.cons rfl (fun K hK => ?_) AllReadyH.nil
              go_simp
              go_wp2_with fail
              refine hK.out _ _ ?_ (fun hHeld => ?_)
              · exact HKS.out _ hcurA
              clear hK K
              refine wpAnyH_ready (rs := [11]) (by kernel_rfl) (by simp) ?_
              refine AllReadyH.cons rfl (fun K hK => ?_) AllReadyH.nil
              refine step_append_allP (p := notU) _ rfl _ _ _ rfl wi.heap.size 82 i0 _ 1 24 Tryz.underlying85 HINF.out rfl (by decide) (.slice va vl vc) m cs rfl HOA.out.own.own ⟨x1.heap.size, 0, none⟩ 1 1 [.slice ua ul uc] rfl rfl (one_new _ _ _) (by simp [Value.oneCell']) (by omega) (by omega) (by omega) HOA.out.size (fun u hu => by simp [Value.cells] at hu; subst hu; intro y e; cases e) (fun u hu => by simp at hu; subst hu; intro y e; cases e) HOA.out.own.clean ?_
              intro g8 cap8 w8 hown8 hgrow8 hC8
              obtain ⟨⟨k0, fz0⟩, hstep⟩ := HOA.out.step (u := .slice ua ul uc) h1 hW1 hWi HXA.out hown8 hgrow8 hC8
              have HN := Hid.mk' hstep
              clear hstep hown8 hgrow8 hC8
              refine hK.out _ _ ?_ (fun hHeld => ?_)
              · exact k0
              clear hK K
              refine wpAnyH_take (i := 12) (v := ?v12a) rfl (by kernel_rfl) (by kernel_rfl) (by kernel_rfl) (fun _ _ _ h => h) (Or.inl ⟨by rfl, ?hy12a⟩) (by assumption) ?rest12a
              case hy12a => (intro w hSw; (try dsimp only at hSw); go_simp <;> (try with_reducible rfl))
              simp only [Act.put]
              refine wpAnyH_done (by kernel_rfl) ?_ _
              refine ahead_last rfl (fun K hK => ?_)
              go_simp
              refine hK _ _ ?_
              clear hK K
              generalize w8.setCell ⟨w.heap.size, i, none⟩ (.slice (some ⟨g8, 0, none⟩) (m + 1) cap8) = W9 at *
              clear HXA HOA hHeld k0 fz0 hcur hcurA HKS
              go_wp2_with fail
              exact ⟨⟨m + 1, _, _, _, _, _, h3, by go_num, HN⟩, by simp [intOf]; omega⟩
            · obtain rfl : m = C := by omega
              have HE := Hid.mk' (HO.out.end' hC0 hWi)
              go_wp2_with fail
              exact ⟨⟨i + 1, _, h1, by go_num, HE⟩, by simp [intOf]; omega⟩
    · obtain rfl : i = R := by omega
      go_wp2_with fail
      go_ret
      exact ⟨F, _, rfl, hW1, HG.out.row.row, fun j hj => by rw [HVE.out]; exact HG.out.made j hj, HG.out.below⟩
end Go.Proofs.YtnihclkaaglnjaaGreatDoor
