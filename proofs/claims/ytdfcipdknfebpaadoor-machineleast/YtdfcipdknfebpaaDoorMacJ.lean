/- machine.leastPrograms: the iterator. -/
import Derived.RangeFuncNested
import Derived.RangeFuncBound
import Derived.RangeFuncCalls
import Derived.RangeFuncLeaves
import Derived.RangeFuncFrom
import Derived.Shelf.Abstract
import Derived.Shelf.RegionOpen
import Derived.WalkKit
import Derived.OwnWalkIn
import Derived.TacticsInMore
import Derived.LoopNIn
import Derived.LoopIn
import Derived.Test.YtdfcipdknfebpaaDoorMacI
import Derived.Test.YtdfcipdknfebpaaDoorMacN
import Derived.Test.YtdfcipdknfebpaaDoorMacE
namespace Go.Proofs.YtdfcipdknfebpaaDoor
open Go.RowKit Go.Shelf
attribute [local go_sem] Oper.semAt_some

/-- What a round leaves as it lay: all blocks from n₀ on. -/
structure KeepA (n₀ : Nat) (A B : World) : Prop where
  size : A.heap.size ≤ B.heap.size
  block : ∀ k, n₀ ≤ k → k < A.heap.size → B.heap[k]? = A.heap[k]?
theorem KeepA.trans {n₀ : Nat} {A B C : World} (h : KeepA n₀ A B) (k : KeepA n₀ B C) : KeepA n₀ A C := ⟨Nat.le_trans h.size k.size, fun i h1 h2 => (k.block i h1 (Nat.lt_of_lt_of_le h2 h.size)).trans (h.block i h1 h2)⟩
theorem own_keepA {n₀ B : Nat} {W W' : World} {e : TypeId} {sz n : Nat} {v : Value} {xs : List Value} (h : W.ownsRow B e sz v n xs) (hB : n₀ ≤ B) (hk : KeepA n₀ W W') : W'.ownsRow B e sz v n xs := by
  refine ⟨h.1, ?_⟩
  rcases h.2 with h2 | ⟨g, cap, cur, h1, h2, h3, h4⟩
  · exact Or.inl h2
  · exact Or.inr ⟨g, cap, cur, h1, h2, by rw [hk.block g (by omega) (Array.getElem?_eq_some_iff.1 h3).1]; exact h3, h4⟩
theorem own_beX {B m B' : Nat} {W W' : World} {e : TypeId} {sz n : Nat} {v : Value} {xs : List Value} (h : W.ownsRow B' e sz v n xs) (hm : m < B') (hk : BelowX B m W W') (hl : ∀ g, v.ownBlock = some g → g < B) : W'.ownsRow B' e sz v n xs := by
  refine ⟨h.1, ?_⟩
  rcases h.2 with h2 | ⟨g, cap, cur, h1, h2, h3, h4⟩
  · exact Or.inl h2
  · exact Or.inr ⟨g, cap, cur, h1, h2, by rw [hk.block g (hl g (by rw [h1]; rfl)) (by omega)]; exact h3, h4⟩
/-- What the iterator keeps: the levels, and the texts that were met. -/
structure ItAt (n₀ : Nat) (v : Value) (n : Nat) (wr : World) : Prop where
  lv : LvAt wr (n₀ + 1) v (lvl n).1
  seen : SeenAt wr n₀ (lvl n).2 (1000 * n)
  size : n₀ + 1 ≤ wr.heap.size
theorem lv_keepA {n₀ : Nat} {W W' : World} {v : Value} {L : List (List Pg)} (h : LvAt W (n₀ + 1) v L) (hk : KeepA n₀ W W') : LvAt W' (n₀ + 1) v L := by
  obtain ⟨vs, h1, h2⟩ := h
  exact ⟨vs, own_keepA h1 (by omega) hk, fun i l hi => by obtain ⟨u, h3, h4⟩ := h2 i l hi; exact ⟨u, h3, own_keepA h4 (by omega) hk⟩⟩
theorem lv_beX {n₀ : Nat} {W W' : World} {v : Value} {L : List (List Pg)} (h : LvAt W (n₀ + 1) v L) (hk : BelowX W.heap.size n₀ W W') : LvAt W' (n₀ + 1) v L := by
  obtain ⟨vs, h1, h2⟩ := h
  exact ⟨vs, own_beX h1 (by omega) hk (fun g e => (h1.lt g e).2), fun i l hi => by obtain ⟨u, h3, h4⟩ := h2 i l hi; exact ⟨u, h3, own_beX h4 (by omega) hk (fun g e => (h4.lt g e).2)⟩⟩
/-- One level more. -/
theorem lv_push {n₀ : Nat} {W W' : World} {v v' u : Value} {L : List (List Pg)} {l : List Pg} {vs : List Value} (h2 : ∀ (i : Nat) (l : List Pg), L[i]? = some l → ∃ u, vs[i]? = some u ∧ OwnW W (n₀ + 1) u l) (hvl : vs.length = L.length) (hu : OwnW W (n₀ + 1) u l) (hg : W.grownBy W' v.ownBlock) (hv : ∀ g, v.ownBlock = some g → ∃ cur, W.heap[g]? = some (.cells cur 75))
    (ho : W'.ownsRow (n₀ + 1) 75 1 v' (L.length + 1) (vs ++ [u])) : LvAt W' (n₀ + 1) v' (L ++ [l]) := by
  have keep : ∀ (x : Value) (r : List Pg), OwnW W (n₀ + 1) x r → OwnW W' (n₀ + 1) x r := fun x r h => own_keptM h hg (fun g e e2 => by
    obtain ⟨cur, h3⟩ := hv g e2
    rcases h.2 with ⟨h4, _⟩ | ⟨g', cap', cur', h4, _, h5, _⟩
    · rw [h4] at e; simp [Value.ownBlock] at e
    · rw [h4] at e
      simp [Value.ownBlock] at e
      rw [e, h3] at h5
      simp at h5)
  refine ⟨vs ++ [u], by rw [List.length_append]; exact ho, fun i r hi => ?_⟩
  rcases Nat.lt_or_ge i L.length with h3 | h3
  · rw [List.getElem?_append_left h3] at hi
    obtain ⟨x, h4, h5⟩ := h2 i r hi
    exact ⟨x, by rw [List.getElem?_append_left (by omega)]; exact h4, keep x r h5⟩
  · have h4 : i = L.length := by
      have := (List.getElem?_eq_some_iff.1 hi).1
      rw [List.length_append] at this
      simp at this
      omega
    subst h4
    rw [List.getElem?_append_right (Nat.le_refl _), Nat.sub_self] at hi
    obtain rfl : l = r := by simpa using hi
    exact ⟨u, by rw [List.getElem?_append_right (by omega), hvl, Nat.sub_self]; rfl, keep u l hu⟩
theorem Tryd.infoLv : (Tryd.prog.info? 75).map (fun i => (i.zero, i.size, i.bytes)) = some (some (.slice none 0 0), 1, 24) := by kernel_rfl

set_option maxRecDepth 100000 in
set_option maxHeartbeats 8000000 in
theorem least1_in (m : Nat) (hm : 1 ≤ m) (lp : Nat) (J Jx : List Pg → World → Prop) (W : World) (hJ : ∀ s A B, J s A → Below W.heap.size A B → J s B)
    (hY : ∀ pre p W1, J pre W1 → pre ++ [p] <+: allE 17 → YieldAt Fence.wide (m - 1) Tryd.prog lp #[.string (bt (fla p)), .string (bt (stp p))] W1 fun e W' =>
      (e = .returned (.bool true) ∧ J (pre ++ [p]) W' ∧ KeepA W.heap.size W1 W') ∨ (e = .returned (.bool false) ∧ Jx (pre ++ [p]) W'))
    (h0 : J [] W) :
    CallsIn Fence.wide m Tryd.prog 37 #[.func (.yield lp) #[] #[]] W fun e W' => (∃ v, e = .returned v) ∧ (J (allE 17) W' ∨ ∃ pre, pre <+: allE 17 ∧ Jx pre W') := by
  obtain ⟨i0, hi, hz0, hz1, hz2⟩ := info_parts Tryd.infoLv
  have HINF : Hid (Tryd.prog.info? 75 = some i0 ∧ i0.zero = some (.slice none 0 0) ∧ i0.size = 1 ∧ i0.bytes = 24) := ⟨hi, hz0, hz1, hz2⟩
  clear hi hz0 hz1 hz2
  have hmm := @run_makeMap Tryd.prog
  have HJ := Hid.mk' hJ
  have HY := Hid.mk' hY
  have HJ0 : Hid (J (allE 0) (W.alloc (.map #[] 0))) := hJ _ _ _ h0 ((Below.refl _ _).alloc (Nat.le_refl _) _)
  have HIT : Hid (ItAt W.heap.size (.slice none 0 0) 0 (W.alloc (.map #[] 0))) := ⟨⟨[], ⟨rfl, Or.inl ⟨rfl, rfl⟩⟩, fun i l h => by simp [lvl] at h⟩, ⟨.map [], fun _ => 0, World.ownsMap_made _ _ _ _, Maps.isMap_empty, fun _ _ => rfl, fun _ _ => rfl, fun _ => Nat.le_refl _⟩, by simp⟩
  clear hJ hY h0
  refine callsIn_of_wp Tryd.func37 rfl trivial ?_ rfl
  simp only [Tryd.ntmps37, List.size_toArray, List.length_cons, List.length_nil, Nat.reduceAdd, Nat.reduceSub, Array.replicate_succ, Array.replicate_zero, List.push_toArray, List.append_toArray, List.nil_append, List.cons_append]
  gi_wp2
  gi_loopw [3, 9] (fun v t wr => ∃ n : Nat, n ≤ 17 ∧ t = .int .i64 (n : Int) ∧ Hid (ItAt W.heap.size v n wr) ∧ Hid (J (allE n) wr)) (fun _ t _ => 17 - (intOf t).toNat)
  case atStart => exact ⟨0, by omega, rfl, HIT, HJ0⟩
  case round =>
    obtain ⟨n, hn, rfl, HI, HJn⟩ := hrel
    have hn0 : (0 : Int) ≤ (n : Int) := by omega
    rcases Nat.lt_or_ge n 17 with h1 | h1
    · have hnI : (n : Int) < 17 := by omega
      have hlg := longer_any (lvl n).1 n u3 (W.heap.size + 1) wr HI.out.lv (by omega) (lvl_len n) (fun l hl => ⟨lvl_short (by omega) hl, fun p hp => lvl_small (by omega) hl hp⟩)
      have hsz := HI.out.size
      have HLG := Hid.mk' hlg
      clear hlg hmm
      gi_wp2_with (refine ⟨trivial, ?_⟩; gi_at_call 39; refine CallsIn.mono (callsIn_wide.2 HLG.out) ?_; rintro e w1 ⟨d, rfl, hO1, hB1⟩; have hfr := fresh_any (lon (lvl n).1 n) d wr.heap.size W.heap.size (1000 * n) (lvl n).2 w1 hO1 (HI.out.seen.later (hB1.block _ (by omega))) (by omega) hB1.size (lon_len h1) (by omega) (fun p hp => lon_small h1 hp); rw [sort_is (srt_ok h1).1] at hfr; have HFR := Hid.mk' hfr; have HB1 := Hid.mk' hB1; clear hfr hO1 hB1)
      refine ⟨trivial, ?_⟩
      gi_at_call 38
      refine CallsIn.mono (callsIn_wide.2 HFR.out) ?_
      clear HFR HLG
      rintro e w2 ⟨d2, rfl, hO2, hS2, hX2⟩
      have hX0 : BelowX wr.heap.size W.heap.size wr w2 := (BelowX.of HB1.out).trans hX2
      have hlen := lev_len h1
      have hlonl := lon_len h1
      have HLV2 := Hid.mk' (lv_beX HI.out.lv hX0)
      have HS2 : Hid (SeenAt w2 W.heap.size (lvl (n + 1)).2 (1000 * (n + 1))) := hS2.mono (by omega)
      have hsz1 := HB1.out.size
      have HO2 : Hid (OwnW w2 (W.heap.size + 1) d2 (levN n)) := own_base hO2 (by omega)
      have HJ2 : Hid (J (allE n ++ (levN n).take 0) w2) := by
        show J _ _
        rw [List.take_zero, List.append_nil]
        exact HJ.out _ _ _ HJn.out ⟨hX0.os, hX0.tape, hX0.output, hX0.size, fun k hk => hX0.block k (by omega) (by omega)⟩
      have hsz2 : W.heap.size + 1 ≤ w2.heap.size := Nat.le_trans hsz hX0.size
      obtain ⟨ad2, cap2, rfl, had2⟩ := own_form hO2
      have HAD := Hid.mk' had2
      clear hO2 hS2 hX2 hX0 HB1 HI HJn hsz1 had2 hlonl
      have HSZ2 := Hid.mk' hsz2
      clear hsz hsz2
      obtain ⟨len, hlen2⟩ : ∃ len, len = (levN n).length := ⟨_, rfl⟩
      change _ = _ at hlen2
      have e9 : (frs (lonS (lvl n).1 n) (lvl n).2).1 = levN n := rfl
      rw [e9] at HAD ⊢
      clear e9
      rw [← hlen2] at HAD hlen ⊢
      have HOL : Hid (OwnW w2 (W.heap.size + 1) (.slice ad2 len cap2) (levN n)) := by show OwnW _ _ _ _; rw [hlen2]; exact HO2.out
      have HLN := Hid.mk' hlen2
      clear hlen2 HO2
      have hlI : (len : Int) ≤ 1000 := by omega
      gi_wp2
      obtain ⟨wq, rfl⟩ : ∃ wq, wr = wq := ⟨_, rfl⟩
      gi_loopw [19] (fun t wi => ∃ i : Nat, i ≤ len ∧ t = .int .i64 (i : Int) ∧ Hid (LvAt wi (W.heap.size + 1) u3 (lvl n).1) ∧ Hid (SeenAt wi W.heap.size (lvl (n + 1)).2 (1000 * (n + 1))) ∧ Hid (OwnW wi (W.heap.size + 1) (.slice ad2 len cap2) (levN n)) ∧ Hid (J (allE n ++ (levN n).take i) wi) ∧ Hid (W.heap.size + 1 ≤ wi.heap.size)) (fun t _ => len - (intOf t).toNat)
      case atStart => exact ⟨0, Nat.zero_le _, rfl, HLV2, HS2, HOL, HJ2, HSZ2⟩
      case round =>
        clear HLV2 HS2 HOL HJ2 HSZ2
        obtain ⟨i, hi, rfl, HLV, HS, HO, HJi, HSZ⟩ := hrel
        have hi0 : (0 : Int) ≤ (i : Int) := by omega
        rcases Nat.lt_or_ge i len with h2 | h2
        · have hiI : (i : Int) < (len : Int) := by omega
          obtain ⟨p, hp⟩ : ∃ p, (levN n)[i]? = some p := ⟨_, List.getElem?_eq_getElem (by have := HLN.out; omega)⟩
          obtain ⟨g, rfl⟩ := HAD.out (by omega)
          obtain ⟨hc0, hc1⟩ := wrC_at (levN n) i p hp
          have z0 : wr.cell? ⟨g, i * 2, none⟩ = some (.string (bt (fla p))) := (own_cell HO.out (by have := HLN.out; omega)).trans hc0
          have z1 : wr.cell? ⟨g, i * 2 + 1, none⟩ = some (.string (bt (stp p))) := (own_cell HO.out (by have := HLN.out; omega)).trans hc1
          have HPR := Hid.mk' (lev_pre h1 hp)
          have HTK : Hid (allE n ++ (levN n).take (i + 1) = allE n ++ (levN n).take i ++ [p]) := by
            show _ = _
            have : (levN n).take (i + 1) = (levN n).take i ++ [p] := by rw [List.take_add_one, hp]; rfl
            rw [this, List.append_assoc]
          have hsz := HSZ.out
          have HJ3 := HJ.out _ _ (wr.alloc (.cells #[.string (bt (fla p)), .string (bt (stp p))] 79)) HJi.out ((Below.refl _ _).alloc (by omega) _)
          obtain ⟨fn, tmps, assign, body, hy, hR⟩ := HY.out _ p _ HJ3 HPR.out
          have HLV3 := Hid.mk' (HLV.out.later ((Below.refl _ wr).alloc (Nat.le_refl _) (.cells #[.string (bt (fla p)), .string (bt (stp p))] 79)))
          have HS3 : Hid (SeenAt (wr.alloc (.cells #[.string (bt (fla p)), .string (bt (stp p))] 79)) W.heap.size (lvl (n + 1)).2 (1000 * (n + 1))) := HS.out.later (Below.heap_alloc _ _ _ (by omega))
          have HO3 := Hid.mk' (HO.out.alloc (.cells #[.string (bt (fla p)), .string (bt (stp p))] 79))
          have HSZ3 : Hid (W.heap.size + 1 ≤ (wr.alloc (.cells #[.string (bt (fla p)), .string (bt (stp p))] 79)).heap.size) := by show _ ≤ _; rw [World.size_alloc]; omega
          clear hp hc0 hc1 HJ3 hsz HJi HLV HS HO HSZ
          generalize bt (fla p) = Fp at *
          generalize bt (stp p) = Sp at *
          gi_wp2
          refine hR.mono ?_
          clear hR hy z0 z1
          rintro e W4 (⟨rfl, hJ4, hK4⟩ | ⟨rfl, hJx4⟩)
          · gi_wp2
            go_roundw
            case rel => exact ⟨i + 1, by omega, by simp, lv_keepA HLV3.out hK4, HS3.out.later (hK4.block _ (Nat.le_refl _) (by have := HSZ3.out; omega)), own_keepA HO3.out (by omega) hK4, by show J _ _; rw [HTK.out]; exact hJ4, Nat.le_trans HSZ3.out hK4.size⟩
            case measure => simp [intOf]; omega
          · gi_wp2
            refine bodyPost_ret (results_none rfl _ _ _) rfl ?_
            exact ⟨⟨_, rfl⟩, .inr ⟨_, HPR.out, hJx4⟩⟩
        · obtain rfl : i = len := by omega
          have HJE : Hid (J (allE (n + 1)) wr) := by
            show J _ _
            have := HJi.out
            rw [HLN.out, List.take_length, ← allE_lev] at this
            exact this
          obtain ⟨vs, hv1, hv2⟩ := HLV.out
          have HV1 := Hid.mk' hv1
          have HV2 := Hid.mk' hv2
          have HVL : Hid (vs.length = (lvl n).1.length) := by have := hv1.1; show _ = _; omega
          have hln := lvl_len n
          have HSZ' := Hid.mk' HSZ.out
          have HNE : Hid (∀ g, u3.ownBlock = some g → W.heap.size + 1 ≤ g ∧ g < wr.heap.size ∧ ∃ cur, wr.heap[g]? = some (.cells cur 75)) := fun g e => by
            refine ⟨(HV1.out.lt g e).1, (HV1.out.lt g e).2, ?_⟩
            rcases HV1.out.2 with ⟨h4, _⟩ | ⟨g', cap', cur', h4, _, h5, _⟩
            · rw [h4] at e; simp [Value.ownBlock] at e
            · rw [h4] at e
              simp [Value.ownBlock] at e
              subst e
              exact ⟨cur', h5⟩
          clear hv1 hv2
          rw [hln] at HV1
          gi_wp2_with (gi_at_builtin; refine wpListIn_append_own _ rfl _ _ _ rfl (W.heap.size + 1) 75 i0 (.slice none 0 0) 1 24 Tryd.underlying74 HINF.out.1 HINF.out.2.1 HINF.out.2.2.1 HINF.out.2.2.2 rfl (by decide) u3 _ _ rfl (HV1.out.alloc _) ⟨wr.heap.size, 0, none⟩ 1 1 [.slice ad2 i cap2] rfl rfl (one_newS _ _ _) (by simp [Value.oneCell']) (by unfold maxLen; omega) (by omega) (by have := HSZ.out; rw [World.size_alloc]; omega) ?_; intro v' w5 hown5 hg5 hnil5; have HO5 := Hid.mk' hown5; have HG5 := Hid.mk' hg5; clear hown5 hg5 hnil5)
          have HB5 : Hid (Below W.heap.size wr w5) := ((Below.refl _ wr).alloc (by have := HSZ'.out; omega) _).grown HG5.out (by rw [World.size_alloc]; have := HSZ'.out; omega) (fun k e => by have := (HNE.out k e).1; omega)
          have HLV5 : Hid (LvAt w5 (W.heap.size + 1) v' (lvl (n + 1)).1) := by
            show LvAt _ _ _ _
            rw [lvl_succ1]
            refine lv_push (W := wr.alloc (.cells #[.slice ad2 i cap2] 75)) (v := u3) (fun j l hj => ?_) HVL.out (HO.out.alloc _) HG5.out (fun g e => ?_) ?_
            · obtain ⟨x, h4, h5⟩ := HV2.out j l hj
              exact ⟨x, h4, h5.alloc _⟩
            · obtain ⟨_, h4, cur, h5⟩ := HNE.out g e
              exact ⟨cur, by rw [Below.heap_alloc _ _ _ h4]; exact h5⟩
            · rw [lvl_len]; exact HO5.out
          have HS5 : Hid (SeenAt w5 W.heap.size (lvl (n + 1)).2 (1000 * (n + 1))) := HS.out.later (by
            have h7 := HSZ'.out
            rw [HG5.out.block W.heap.size (by rw [World.size_alloc]; omega) (fun e => by have := (HNE.out _ e.symm).1; omega), Below.heap_alloc _ _ _ (by omega)])
          have HSZ5 : Hid (W.heap.size + 1 ≤ w5.heap.size) := Nat.le_trans HSZ'.out HB5.out.size
          gi_wp2
          go_roundw
          case rel => exact ⟨n + 1, by omega, by simp, ⟨HLV5.out, HS5.out, HSZ5.out⟩, HJ.out _ _ _ HJE.out HB5.out⟩
          case measure => simp [intOf]; omega
    · obtain rfl : n = 17 := by omega
      gi_wp2
      go_end0
      exact ⟨⟨_, rfl⟩, .inl HJn.out⟩
end Go.Proofs.YtdfcipdknfebpaaDoor
