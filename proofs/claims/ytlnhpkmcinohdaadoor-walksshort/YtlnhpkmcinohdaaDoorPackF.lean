/- The law WalksShort. Written by tools/genwsl.py. -/
import Derived.Test.YtlnhpkmcinohdaaDoorPackD
import Derived.Test.YtlnhpkmcinohdaaDoorPackE
import Derived.Test.YtlnhpkmcinohdaaDoorRows
import Derived.Test.YtlnhpkmcinohdaaDoorCode
import Derived.ChangeSame
import Derived.ChangeVars
import Derived.JoinedOf
import Derived.LaidLaws
import Derived.LaidHandle
import Derived.LaidMore
import Derived.Stop.Joined
import Derived.Test.YtlnhpkmcinohdaaDoorWlMem
import Derived.Test.YtlnhpkmcinohdaaDoorCards
import Derived.Test.YtlnhpkmcinohdaaDoorTie
import Derived.SevenTiedAt
import Derived.ProofKit
import Derived.OpenShut
import Derived.ChangeOld
import Derived.Lib.SmallJoins
import Derived.Deep.SlicePairs
import Derived.Deep.Slices
import Derived.ChangeArms
namespace Go.Proofs.YtlnhpkmcinohdaaDoor
open Go.RowKit

/-- A network that grows, in its box. -/
structure GotAt (T : TypeId) (w wr : World) (B ob : Nat) (n : Int) (sv : Value) (l : List Wr) : Prop where
  below : Below w.heap.size w wr
  hB : B ≤ wr.heap.size
  lt : w.heap.size ≤ ob ∧ ob < B
  c0 : wr.cell? ⟨ob, 0, none⟩ = some (.int .i64 n)
  c1 : wr.cell? ⟨ob, 1, none⟩ = some sv
  fz : wr.frozen? ⟨ob, 1, none⟩ = false
  own : wr.ownsRow B T 3 sv l.length (wrsC l)
theorem GotAt.later {T : TypeId} {w wr wn : World} {B ob : Nat} {n : Int} {sv : Value} {l : List Wr} (h : GotAt T w wr B ob n sv l) (hb : Below wr.heap.size wr wn) : GotAt T w wn B ob n sv l :=
  ⟨h.below.trans (hb.mono h.below.size), Nat.le_trans h.hB hb.size, h.lt, by rw [hb.cell (cell_lt h.c0)]; exact h.c0, by rw [hb.cell (cell_lt h.c1)]; exact h.c1, by rw [hb.frozen (cell_lt h.c1)]; exact h.fz, own_pastW h.own hb⟩
theorem GotAt.push {T : TypeId} {w wr w3 : World} {B ob g cap : Nat} {n : Int} {sv : Value} {l : List Wr} (h : GotAt T w wr B ob n sv l) (x : Wr)
    (hg : wr.grownBy w3 sv.ownBlock) (hown : w3.ownsRow B T 3 (.slice (some ⟨g, 0, none⟩) (l.length + 1) cap) (l.length + 1) (wrsC l ++ [.int .i64 x.a, .int .i64 x.b, .int .i64 x.c])) :
    w3.cell? ⟨ob, 0, none⟩ = some (.int .i64 n) ∧ w3.cell? ⟨ob, 1, none⟩ = some sv ∧ w3.frozen? ⟨ob, 1, none⟩ = false ∧ GotAt T w (w3.setCell ⟨ob, 1, none⟩ (.slice (some ⟨g, 0, none⟩) (l.length + 1) cap)) B ob n (.slice (some ⟨g, 0, none⟩) (l.length + 1) cap) (l ++ [x]) := by
  have blk : ∀ q, q < B → w3.heap[q]? = wr.heap[q]? := fun q hq => hg.block q (Nat.lt_of_lt_of_le hq h.hB) (fun e => by have := (own_geW h.own e.symm).1; omega)
  have cel : ∀ q j, q < B → w3.cell? ⟨q, j, none⟩ = wr.cell? ⟨q, j, none⟩ := fun q j hq => World.cell?_of_block (a := ⟨q, j, none⟩) (blk q hq)
  have frz : ∀ q j, q < B → w3.frozen? ⟨q, j, none⟩ = wr.frozen? ⟨q, j, none⟩ := fun q j hq => World.frozen?_of_block (a := ⟨q, j, none⟩) (blk q hq)
  obtain ⟨l1, l2⟩ := h.lt
  have k0 : w3.cell? ⟨ob, 0, none⟩ = some (.int .i64 n) := by rw [cel ob 0 l2]; exact h.c0
  have k1 : w3.cell? ⟨ob, 1, none⟩ = some sv := by rw [cel ob 1 l2]; exact h.c1
  have kf : w3.frozen? ⟨ob, 1, none⟩ = false := by rw [frz ob 1 l2]; exact h.fz
  have hbel : Below w.heap.size w w3 := h.below.grown hg h.below.size (fun q hq => by have := (own_geW h.own hq).1; omega)
  refine ⟨k0, k1, kf, ⟨hbel.setCell l1 _, by simpa using Nat.le_trans h.hB hg.size, h.lt, ?_, ?_, ?_, ?_⟩⟩
  · rw [World.cell?_setCell_other _ _ _ _ (by simp)]; exact k0
  · rw [World.cell?_setCell_same _ _ _ k1]
  · rw [World.frozen?_setCell]; exact kf
  · rw [wrsC_snoc, List.length_append]
    exact own_lowW hown l2

theorem wr_nil (w : World) : WrAt w (.slice none 0 0) [] := ⟨none, 0, rfl, fun i m h => by simp at h⟩

set_option maxRecDepth 100000 in
set_option maxHeartbeats 16000000 in
theorem WalksShort_all (a : Nat → Addr) (N x y : Int) (v : Value) (L : List Wr) (w : World) (hE : Errs w a) (hG : WrAt w v L) (hm : L.length ≤ maxLen) :
    Calls Tryd.prog 4 #[.agg #[.int .i64 N, v], .int .i64 x, .int .i64 y] w fun e w' => e = .returned (.bool true) ∧ Below w.heap.size w w' := by
  obtain ⟨ad, cap, rfl⟩ := hG.form
  obtain ⟨W1, hW1⟩ : ∃ W1, W1 = w.alloc (.cells #[.int .i64 N, .slice ad L.length cap] 24) := ⟨_, rfl⟩
  obtain ⟨bx, hbx⟩ : ∃ bx, bx = w.heap.size := ⟨_, rfl⟩
  have hb1 : Below w.heap.size w W1 := by rw [hW1]; exact (Below.refl _ _).alloc (Nat.le_refl _) _
  have q0 : W1.cell? ⟨bx, 0, none⟩ = some (.int .i64 N) := by rw [hW1, hbx]; go_simp
  have q1 : W1.cell? ⟨bx, 1, none⟩ = some (.slice ad L.length cap) := by rw [hW1, hbx]; go_simp
  have HC : Hid (∀ W, Below W1.heap.size W1 W → W.cell? ⟨bx, 0, none⟩ = some (.int .i64 N) ∧ W.cell? ⟨bx, 1, none⟩ = some (.slice ad L.length cap)) := fun W hb => ⟨by rw [hb.cell (cell_lt q0)]; exact q0, by rw [hb.cell (cell_lt q1)]; exact q1⟩
  have HE : Hid (∀ W, Below W1.heap.size W1 W → Errs W a) := fun W hb => (hE.below hb1).below hb
  have HG : Hid (∀ W, Below W1.heap.size W1 W → WrAt W (.slice ad L.length cap) L) := fun W hb => (hG.later hb1).later hb
  have HEND : Hid (∀ W, Below W1.heap.size W1 W → Below w.heap.size w W) := fun W hb => below_chain hb1 hb
  have HOHM := Hid.mk' (ohm_any a W1 (hE.below hb1))
  have HM := Hid.mk' hm
  clear hE hG hb1 hm
  obtain ⟨i, hi', hi2⟩ := Option.map_eq_some_iff.1 Tryd.infoRefWire
  obtain ⟨hz, hsz, hby⟩ : i.zero = some (.agg #[.int .i64 0, .int .i64 0, .int .i64 0]) ∧ i.size = 3 ∧ i.bytes = 24 := by simpa using hi2
  have HINF := Hid.mk' (And.intro hi' (And.intro hz (And.intro hsz hby)))
  clear hi' hi2 hz hsz hby
  go_enter Tryd.func4, Tryd.ntmps4
  go_upto_region 1 with fail
  rw [← hW1, ← hbx]
  clear hW1 hbx q0 q1
  go_wp2_with fail
  refine HOHM.out.mono ?_
  rintro e w2 ⟨rfl, hb2⟩
  have HB2 := Hid.mk' hb2
  obtain ⟨q0, q1⟩ := HC.out _ hb2
  clear hb2 HOHM
  have HTH := Hid.mk' (thin_any N ad L.length cap HM.out w2)
  by_cases h100 : L.length ≤ 100
  · rw [decide_eq_true h100] at HTH
    have hl : L.length ≤ 1000 := by omega
    go_wp2_with fail
    refine HTH.out.mono ?_
    clear q0 q1
    rintro e w3 ⟨rfl, hb3⟩
    have HB3 := Hid.mk' (below_chain HB2.out hb3)
    obtain ⟨q0, q1⟩ := HC.out _ HB3.out
    have HNE := Hid.mk' (endsError_any N x y (.slice ad L.length cap) L w3 (HG.out _ HB3.out) hl)
    have HNET := Hid.mk' (fun (W : World) (hb : Below W1.heap.size W1 W) => net_any N (.slice ad L.length cap) L W (HG.out _ hb) hl)
    have HSH := Hid.mk' (fun (W : World) (v : Value) (hb : Below W1.heap.size W1 W) (hv : WrAt W v L) => WShort_any a N x y v L W (HE.out _ hb) hv hl)
    have HSO := Hid.mk' (fun (hz : paE N L x y = 0) (W : World) (hb : Below W1.heap.size W1 W) => ShortOf_any N x y (.slice ad L.length cap) L W (HG.out _ hb) hl (wires_sm (by have := (paE_ok hz).2.1; omega) (paE_ok hz).2.2.2.1).1 (by have := (paE_ok hz).1; have := (paE_ok hz).2.1; omega) (by obtain ⟨k1, k2, _, _, _, j1, j2, j3, j4, j5⟩ := paE_ok hz; omega) (by obtain ⟨k1, k2, _, _, _, j1, j2, j3, j4, j5⟩ := paE_ok hz; omega) (by obtain ⟨k1, k2, _, _, _, j1, j2, j3, j4, j5⟩ := paE_ok hz; exact j5))
    have HLE := Hid.mk' (paE_le N L x y)
    have HSLL := Hid.mk' (Nat.le_trans (shortL_le (min x y) (max x y) L) hl)
    clear hb3 HTH hl
    generalize paE N L x y = E at *
    generalize shortL (min x y) (max x y) L = SL at *
    go_wp2_with fail
    refine HNE.out.mono ?_
    clear q0 q1 HNE
    rintro e w4 ⟨rfl, hb4⟩
    have HB4 := Hid.mk' (below_chain HB3.out hb4)
    obtain ⟨W5, hW5⟩ : ∃ W5, W5 = w4.alloc (.cells #[.int .i64 0, .slice none 0 0] 24) := ⟨_, rfl⟩
    obtain ⟨bw, hbw⟩ : ∃ bw, bw = w4.heap.size := ⟨_, rfl⟩
    have hb5 : Below w4.heap.size w4 W5 := by rw [hW5]; exact (Below.refl _ _).alloc (Nat.le_refl _) _
    have HB5 := Hid.mk' (below_chain HB4.out hb5)
    obtain ⟨q0, q1⟩ := HC.out _ HB5.out
    have y0 : W5.cell? ⟨bw, 0, none⟩ = some (.int .i64 0) := by rw [hW5, hbw]; go_simp
    have y1 : W5.cell? ⟨bw, 1, none⟩ = some (.slice none 0 0) := by rw [hW5, hbw]; go_simp
    have z0 : W5.frozen? ⟨bw, 0, none⟩ = false := by rw [hW5, hbw]; go_simp
    have z1 : W5.frozen? ⟨bw, 1, none⟩ = false := by rw [hW5, hbw]; go_simp
    have HBW : Hid (W1.heap.size ≤ bw) := by show _ ≤ _; rw [hbw]; exact HB4.out.size
    clear hb4 hb5
    go_upto_region 6 with fail
    rw [← hW5, ← hbw]
    clear hW5 hbw
    by_cases hz : E = 0
    · have hd : ((E : Int) == 0) = true := by simp [hz]
      have HZ := Hid.mk' hz
      have hso := HSO.out hz W5 HB5.out
      have HYY := Hid.mk' (And.intro (And.intro y0 y1) (And.intro z0 z1))
      clear hz y0 y1 z0 z1
      go_wp2_with fail
      refine hso.mono ?_
      clear hso q0 q1
      rintro e w6 ⟨v6, rfl, hv6, hb6, hge⟩
      obtain ⟨aw, cw, rfl⟩ := hv6.form
      have y0 : w6.cell? ⟨bw, 0, none⟩ = some (.int .i64 0) := by rw [hb6.cell (cell_lt HYY.out.1.1)]; exact HYY.out.1.1
      have y1 : w6.cell? ⟨bw, 1, none⟩ = some (.slice none 0 0) := by rw [hb6.cell (cell_lt HYY.out.1.2)]; exact HYY.out.1.2
      have z0 : w6.frozen? ⟨bw, 0, none⟩ = false := by rw [hb6.frozen (cell_lt HYY.out.1.1)]; exact HYY.out.2.1
      have z1 : w6.frozen? ⟨bw, 1, none⟩ = false := by rw [hb6.frozen (cell_lt HYY.out.1.2)]; exact HYY.out.2.2
      have hlt := cell_lt HYY.out.1.1
      have hF : FarW (.slice aw SL.length cw) SL bw := Or.inr fun b o k c e => by have := hge b o k c e; have : bw < W5.heap.size := hlt; omega
      obtain ⟨W7, hW7⟩ : ∃ W7, W7 = (w6.setCell ⟨bw, 0, none⟩ (.int .i64 (N - 1))).setCell ⟨bw, 1, none⟩ (.slice aw SL.length cw) := ⟨_, rfl⟩
      have y1' : (w6.setCell ⟨bw, 0, none⟩ (.int .i64 (N - 1))).cell? ⟨bw, 1, none⟩ = some (.slice none 0 0) := by rw [World.cell?_setCell_other _ _ _ _ (by simp)]; exact y1
      have u0 : W7.cell? ⟨bw, 0, none⟩ = some (.int .i64 (N - 1)) := by rw [hW7, World.cell?_setCell_other _ _ _ _ (by simp), World.cell?_setCell_same _ _ _ y0]
      have u1 : W7.cell? ⟨bw, 1, none⟩ = some (.slice aw SL.length cw) := by rw [hW7, World.cell?_setCell_same _ _ _ y1']
      have HV7 : Hid (WrAt W7 (.slice aw SL.length cw) SL) := by show WrAt _ _ _; rw [hW7]; exact (hv6.put hF _ _).put hF _ _
      have HB7 : Hid (Below W1.heap.size W1 W7) := by show Below _ _ _; rw [hW7]; exact ((below_chain HB5.out hb6).setCell HBW.out _).setCell HBW.out _
      have HUU := Hid.mk' (And.intro u0 u1)
      clear hge hF hlt hv6 hb6 u0 u1
      go_upto_region 8 with fail
      rw [← hW7]
      clear hW7 y0 y1 z0 z1 y1' hd
      obtain ⟨y0, y1⟩ := HUU.out
      obtain ⟨q0, q1⟩ := HC.out _ HB7.out
      have HY := Hid.mk' (fun (W : World) (hb : Below W7.heap.size W7 W) => (⟨by rw [hb.cell (cell_lt y0)]; exact y0, by rw [hb.cell (cell_lt y1)]; exact y1⟩ : W.cell? ⟨bw, 0, none⟩ = some (.int .i64 (N - 1)) ∧ W.cell? ⟨bw, 1, none⟩ = some (.slice aw SL.length cw)))
      clear y0 y1
      go_wp2_with fail
      refine (HNET.out W7 HB7.out).mono ?_
      clear q0 q1
      rintro e w8 ⟨v8, rfl, hv8, hb8⟩
      have HB8 := Hid.mk' (below_chain HB7.out hb8)
      have HB78 := Hid.mk' hb8
      have HV8 := Hid.mk' hv8
      obtain ⟨a8, c8, rfl⟩ := hv8.form
      clear hv8 hb8
      go_wp2_with fail
      refine (HSH.out w8 _ HB8.out HV8.out).mono ?_
      rintro e w9 ⟨n9, v9, rfl, hs0, hs1, hb9⟩
      have HB9 := Hid.mk' (below_chain HB8.out hb9)
      have HB79 := Hid.mk' (below_chain HB78.out hb9)
      obtain ⟨rfl, hv9⟩ := hs1 HZ.out
      obtain ⟨a9, c9, rfl⟩ := hv9.form
      obtain ⟨EV, hEV⟩ : ∃ EV, EV = errV a E := ⟨_, rfl⟩
      have HCO : Hid (∀ W, Below W1.heap.size W1 W → Calls Tryd.prog 8 #[EV, .int .i64 (E : Int)] W fun e w' => e = .returned (.bool true) ∧ Below W.heap.size W w') := fun W hb => by rw [hEV]; exact coded_errV a E HLE.out W (HE.out _ hb)
      rw [← hEV]
      clear hEV hs0 hs1 hb9
      have HLS := Hid.mk' (fun (W : World) (hb : Below w9.heap.size w9 W) => hv9.later hb)
      clear hv9
      obtain ⟨W3, hW3⟩ : ∃ W3, W3 = (w9.alloc (.cells #[.int .i64 (N - 1), .slice a9 SL.length c9] 34)).alloc (.cells #[.int .i64 (N - 1), .slice none 0 0] 24) := ⟨_, rfl⟩
      have hR0 : GotAt 48 w9 W3 (w9.heap.size + 2) (w9.heap.size + 1) (N - 1) (.slice none 0 0) [] := by
        rw [hW3]
        refine ⟨((Below.refl _ _).alloc (Nat.le_refl _) _).alloc (by simp) _, by simp, ⟨by omega, by omega⟩, ?_, ?_, ?_, World.ownsRow_nil _ _ _ _⟩
        all_goals go_simp
      obtain ⟨bs, hbs⟩ : ∃ bs, bs = w9.heap.size := ⟨_, rfl⟩
      have g0 : W3.cell? ⟨bs, 1, none⟩ = some (.slice a9 SL.length c9) := by rw [hW3, hbs]; go_simp
      have HR0 := Hid.mk' hR0
      clear hR0
      go_upto_region 10 with fail
      rw [← hW3]
      have HB3g : Hid (bs ≠ w9.heap.size + 1 ∧ bs < w9.heap.size + 2) := by show _ ∧ _; omega
      clear hW3
      generalize w9.heap.size + 2 = B at *
      generalize w9.heap.size + 1 = bg at *
      rw [← hbs]
      clear hbs
      have HG0 := Hid.mk' g0
      clear g0
      have hslp : SL.length ≤ 1000 := HSLL.out
      go_wp2_with fail
      go_loopw [13] (fun t wr => ∃ (k : Nat) (sv : Value), k ≤ SL.length ∧ t = .int .i64 (k : Int) ∧ Hid (GotAt 48 w9 wr B bg (N - 1) sv (SL.take k)) ∧ Hid (wr.cell? ⟨bs, 1, none⟩ = some (.slice a9 SL.length c9))) (fun t _ => SL.length - (intOf t).toNat)
      case atStart => exact ⟨0, _, Nat.zero_le _, rfl, HR0.out, HG0.out⟩
      case round =>
        clear HR0 HG0
        obtain ⟨k, sv, hk, rfl, HR, HG⟩ := hrel
        have g0 := HG.out
        rcases Nat.lt_or_ge k SL.length with h5 | h5
        · obtain ⟨lt, hlt⟩ : ∃ lt, lt = SL.take k := ⟨_, rfl⟩
          rw [← hlt] at HR
          obtain ⟨sa, sc, rfl⟩ := own_formW HR.out.own
          obtain ⟨x, hx⟩ : ∃ x, SL[k]? = some x := ⟨_, List.getElem?_eq_getElem h5⟩
          obtain ⟨b, o, rfl, x0, x1, x2⟩ := (HLS.out wr HR.out.below).at hx
          have HTK : Hid (SL.take (k + 1) = lt ++ [x]) := by
            show _ = _
            rw [hlt]
            obtain ⟨hi, rfl⟩ := List.getElem?_eq_some_iff.1 hx
            exact List.take_succ_eq_append_getElem hi
          have hkI : (k : Int) < (SL.length : Int) := by omega
          have hk0 : (0 : Int) ≤ (k : Int) := by omega
          have c1 := HR.out.c1
          have HKS : Hid (∀ W, Below wr.heap.size wr W → W.cell? ⟨bs, 1, none⟩ = some (.slice (some ⟨b, o, none⟩) SL.length c9) ∧ W.cell? ⟨b, o + k * 3, none⟩ = some (.int .i64 x.a) ∧ W.cell? ⟨b, o + k * 3 + 1, none⟩ = some (.int .i64 x.b) ∧ W.cell? ⟨b, o + k * 3 + 2, none⟩ = some (.int .i64 x.c) ∧ W.cell? ⟨bg, 1, none⟩ = some (.slice sa lt.length sc)) := fun W hb => ⟨by rw [hb.cell (cell_lt g0)]; exact g0, by rw [hb.cell (cell_lt x0)]; exact x0, by rw [hb.cell (cell_lt x1)]; exact x1, by rw [hb.cell (cell_lt x2)]; exact x2, by rw [hb.cell (cell_lt c1)]; exact c1⟩
          have HSL : Hid (lt.length ≤ 1000) := by show _ ≤ _; rw [hlt, List.length_take]; omega
          have HXX := Hid.mk' hx
          have HRd := Hid.mk' (HR.out.later (Below.refl wr.heap.size wr).drew)
          have hcur : Below wr.heap.size wr wr.drew := (Below.refl _ _).drew
          have HBXl : Hid (bs < wr.heap.size) := cell_lt g0
          clear hlt hx HR HG x0 x1 x2 c1
          go_wp2_with fail
          clear g0
          refine region_but_last (n := 24) (S := fun W => W.cell? ⟨bs, 1, none⟩ = some (.slice (some ⟨b, o, none⟩) SL.length c9) ∧ W.cell? ⟨b, o + k * 3, none⟩ = some (.int .i64 x.a) ∧ W.cell? ⟨b, o + k * 3 + 1, none⟩ = some (.int .i64 x.b) ∧ W.cell? ⟨b, o + k * 3 + 2, none⟩ = some (.int .i64 x.c) ∧ W.cell? ⟨bg, 1, none⟩ = some (.slice sa lt.length sc)) (by kernel_rfl) (by kernel_rfl) (by kernel_rfl) (HKS.out _ hcur) (fun hHeld => ?_)
          have HKD := Hid.mk' (fun (W : World) (hb : Below wr.drew.heap.size wr.drew W) => HKS.out W (below_chain hcur hb))
          generalize wr.drew = Wd at *
          refine wpAnyH_take (i := 0) (v := ?v0) rfl (by kernel_rfl) (by kernel_rfl) (by kernel_rfl) (fun _ _ _ h => h) (Or.inl ⟨by rfl, ?hy0⟩) (by assumption) ?rest0
          case hy0 => (intro w hSw; (try dsimp only at hSw); go_simp <;> (try with_reducible rfl))
          simp only [Act.put]
          refine wpAnyH_take (i := 1) (v := ?v1) rfl (by kernel_rfl) (by kernel_rfl) (by kernel_rfl) (fun _ _ _ h => h) (Or.inl ⟨by rfl, ?hy1⟩) (by assumption) ?rest1
          case hy1 => (intro w hSw; (try dsimp only at hSw); go_simp <;> (try with_reducible rfl))
          simp only [Act.put]
          refine wpAnyH_take (i := 2) (v := ?v2) rfl (by kernel_rfl) (by kernel_rfl) (by kernel_rfl) (fun _ _ _ h => h) (Or.inl ⟨by rfl, ?hy2⟩) (by assumption) ?rest2
          case hy2 => (intro w hSw; (try dsimp only at hSw); go_simp <;> (try with_reducible rfl))
          simp only [Act.put]
          refine wpAnyH_take (i := 3) (v := ?v3) rfl (by kernel_rfl) (by kernel_rfl) (by kernel_rfl) (fun _ _ _ h => h) (Or.inl ⟨by rfl, ?hy3⟩) (by assumption) ?rest3
          case hy3 => (intro w hSw; (try dsimp only at hSw); go_simp <;> (try with_reducible rfl))
          simp only [Act.put]
          refine wpAnyH_take (i := 4) (v := ?v4) rfl (by kernel_rfl) (by kernel_rfl) (by kernel_rfl) (fun _ _ _ h => h) (Or.inl ⟨by rfl, ?hy4⟩) (by assumption) ?rest4
          case hy4 => (intro w hSw; (try dsimp only at hSw); go_simp <;> (try with_reducible rfl))
          simp only [Act.put]
          refine wpAnyH_take (i := 5) (v := ?v5) rfl (by kernel_rfl) (by kernel_rfl) (by kernel_rfl) (fun _ _ _ h => h) (Or.inl ⟨by rfl, ?hy5⟩) (by assumption) ?rest5
          case hy5 => (intro w hSw; (try dsimp only at hSw); go_simp <;> (try with_reducible rfl))
          simp only [Act.put]
          refine wpAnyH_take (i := 6) (v := ?v6) rfl (by kernel_rfl) (by kernel_rfl) (by kernel_rfl) (fun _ _ _ h => h) (Or.inl ⟨by rfl, ?hy6⟩) (by assumption) ?rest6
          case hy6 => (intro w hSw; (try dsimp only at hSw); go_simp <;> (try with_reducible rfl))
          simp only [Act.put]
          refine wpAnyH_take (i := 7) (v := ?v7) rfl (by kernel_rfl) (by kernel_rfl) (by kernel_rfl) (fun _ _ _ h => h) (Or.inl ⟨by rfl, ?hy7⟩) (by assumption) ?rest7
          case hy7 => (intro w hSw; (try dsimp only at hSw); go_simp <;> (try with_reducible rfl))
          simp only [Act.put]
          refine wpAnyH_take (i := 8) (v := ?v8) rfl (by kernel_rfl) (by kernel_rfl) (by kernel_rfl) (fun _ _ _ h => h) (Or.inl ⟨by rfl, ?hy8⟩) (by assumption) ?rest8
          case hy8 => (intro w hSw; (try dsimp only at hSw); go_simp <;> (try with_reducible rfl))
          simp only [Act.put]
          refine wpAnyH_take (i := 9) (v := ?v9) rfl (by kernel_rfl) (by kernel_rfl) (by kernel_rfl) (fun _ _ _ h => h) (Or.inl ⟨by rfl, ?hy9⟩) (by assumption) ?rest9
          case hy9 => (intro w hSw; (try dsimp only at hSw); go_simp <;> (try with_reducible rfl))
          simp only [Act.put]
          refine wpAnyH_take (i := 10) (v := ?v10) rfl (by kernel_rfl) (by kernel_rfl) (by kernel_rfl) (fun _ _ _ h => h) (Or.inl ⟨by rfl, ?hy10⟩) (by assumption) ?rest10
          case hy10 => (intro w hSw; (try dsimp only at hSw); go_simp <;> (try with_reducible rfl))
          simp only [Act.put]
          refine wpAnyH_take (i := 11) (v := ?v11) rfl (by kernel_rfl) (by kernel_rfl) (by kernel_rfl) (fun _ _ _ h => h) (Or.inl ⟨by rfl, ?hy11⟩) (by assumption) ?rest11
          case hy11 => (intro w hSw; (try dsimp only at hSw); go_simp <;> (try with_reducible rfl))
          simp only [Act.put]
          refine wpAnyH_take (i := 12) (v := ?v12) rfl (by kernel_rfl) (by kernel_rfl) (by kernel_rfl) (fun _ _ _ h => h) (Or.inl ⟨by rfl, ?hy12⟩) (by assumption) ?rest12
          case hy12 => (intro w hSw; (try dsimp only at hSw); go_simp <;> (try with_reducible rfl))
          simp only [Act.put]
          refine wpAnyH_take (i := 13) (v := ?v13) rfl (by kernel_rfl) (by kernel_rfl) (by kernel_rfl) (fun _ _ _ h => h) (Or.inl ⟨by rfl, ?hy13⟩) (by assumption) ?rest13
          case hy13 => (intro w hSw; (try dsimp only at hSw); go_simp <;> (try with_reducible rfl))
          simp only [Act.put]
          refine wpAnyH_take (i := 14) (v := ?v14) rfl (by kernel_rfl) (by kernel_rfl) (by kernel_rfl) (fun _ _ _ h => h) (Or.inl ⟨by rfl, ?hy14⟩) (by assumption) ?rest14
          case hy14 => (intro w hSw; (try dsimp only at hSw); go_simp <;> (try with_reducible rfl))
          simp only [Act.put]
          refine wpAnyH_take (i := 15) (v := ?v15) rfl (by kernel_rfl) (by kernel_rfl) (by kernel_rfl) (fun _ _ _ h => h) (Or.inl ⟨by rfl, ?hy15⟩) (by assumption) ?rest15
          case hy15 => (intro w hSw; (try dsimp only at hSw); go_simp <;> (try with_reducible rfl))
          simp only [Act.put]
          refine wpAnyH_take (i := 16) (v := ?v16) rfl (by kernel_rfl) (by kernel_rfl) (by kernel_rfl) (fun _ _ _ h => h) (Or.inl ⟨by rfl, ?hy16⟩) (by assumption) ?rest16
          case hy16 => (intro w hSw; (try dsimp only at hSw); go_simp <;> (try with_reducible rfl))
          simp only [Act.put]
          refine wpAnyH_take (i := 17) (v := ?v17) rfl (by kernel_rfl) (by kernel_rfl) (by kernel_rfl) (fun _ _ _ h => h) (Or.inl ⟨by rfl, ?hy17⟩) (by assumption) ?rest17
          case hy17 => (intro w hSw; (try dsimp only at hSw); go_simp <;> (try with_reducible rfl))
          simp only [Act.put]
          refine wpAnyH_take (i := 18) (v := ?v18) rfl (by kernel_rfl) (by kernel_rfl) (by kernel_rfl) (fun _ _ _ h => h) (Or.inl ⟨by rfl, ?hy18⟩) (by assumption) ?rest18
          case hy18 => (intro w hSw; (try dsimp only at hSw); go_simp <;> (try with_reducible rfl))
          simp only [Act.put]
          refine wpAnyH_take (i := 19) (v := ?v19) rfl (by kernel_rfl) (by kernel_rfl) (by kernel_rfl) (fun _ _ _ h => h) (Or.inl ⟨by rfl, ?hy19⟩) (by assumption) ?rest19
          case hy19 => (intro w hSw; (try dsimp only at hSw); go_simp <;> (try with_reducible rfl))
          simp only [Act.put]
          refine wpAnyH_take (i := 20) (v := ?v20) rfl (by kernel_rfl) (by kernel_rfl) (by kernel_rfl) (fun _ _ _ h => h) (Or.inl ⟨by rfl, ?hy20⟩) (by assumption) ?rest20
          case hy20 => (intro w hSw; (try dsimp only at hSw); go_simp <;> (try with_reducible rfl))
          simp only [Act.put]
          refine wpAnyH_ready (rs := [21]) (by kernel_rfl) (by simp) ?_
          refine AllReadyH.cons rfl (fun K hK => ?_) AllReadyH.nil
          go_simp
          have hba : Below Wd.heap.size Wd (Wd.alloc (.cells #[.int .i64 x.a, .int .i64 x.b, .int .i64 x.c] 48)) := (Below.refl _ _).alloc (Nat.le_refl _) _
          have HRa := Hid.mk' (HRd.out.later hba)
          have HNW := Hid.mk' (three_newW Wd (.int .i64 x.a) (.int .i64 x.b) (.int .i64 x.c) 48)
          have HSa := Hid.mk' (HKD.out _ hba)
          refine hK.out _ _ HSa.out (fun hHeld => ?_)
          have HKA := Hid.mk' (fun (W : World) (hb : Below (Wd.alloc (.cells #[.int .i64 x.a, .int .i64 x.b, .int .i64 x.c] 48)).heap.size (Wd.alloc (.cells #[.int .i64 x.a, .int .i64 x.b, .int .i64 x.c] 48)) W) => HKD.out W (below_chain hba hb))
          clear hK K hba HRd HKD
          generalize Wd.alloc (.cells #[.int .i64 x.a, .int .i64 x.b, .int .i64 x.c] 48) = Wa at *
          generalize Wd.heap.size = nb at *
          have hsz := HRa.out.hB
          refine wpAnyH_ready (rs := [22]) (by kernel_rfl) (by simp) ?_
          refine AllReadyH.cons rfl (fun K hK => ?_) AllReadyH.nil
          refine step_append_lies _ rfl _ _ _ rfl B 48 i _ 3 24 Tryd.underlying22 HINF.out.1 HINF.out.2.1 HINF.out.2.2.1 HINF.out.2.2.2 rfl (by omega) (.slice sa lt.length sc) lt.length (wrsC lt) (by rfl) HRa.out.own ⟨nb, 0, none⟩ 1 1 [.int .i64 x.a, .int .i64 x.b, .int .i64 x.c] rfl rfl HNW.out (by simp [Value.oneCell']) (by omega) (by have := HSL.out; unfold maxLen; omega) (by have := HSL.out; omega) hsz _ rfl ?_
          intro g' c9' w9 hown9 hgrow9 hat9 hlt9
          obtain ⟨p0, p1, pf, hR9⟩ := HRa.out.push x hgrow9 hown9
          have HR9 := Hid.mk' hR9
          have hblk : ∀ q, q < B → w9.heap[q]? = Wa.heap[q]? := fun q hq => hgrow9.block q (Nat.lt_of_lt_of_le hq hsz) (fun e => by have := (own_geW HRa.out.own e.symm).1; omega)
          have hg9 : w9.cell? ⟨bs, 1, none⟩ = some (.slice (some ⟨b, o, none⟩) SL.length c9) := by rw [World.cell?_of_block (a := ⟨bs, 1, none⟩) (hblk bs HB3g.out.2)]; exact HSa.out.1
          obtain ⟨b', o', e', y0, y1, y2⟩ := (HLS.out w9 (HRa.out.below.grown hgrow9 HRa.out.below.size (fun q hq => by have := (own_geW HRa.out.own hq).1; have := HRa.out.lt; omega))).at (show SL[k]? = some x from HXX.out)
          obtain ⟨rfl, rfl⟩ : b = b' ∧ o = o' := by simpa using e'
          refine hK.out _ _ ⟨hg9, y0, y1, y2, p1⟩ (fun hHeld => ?_)
          have HG9 : Hid ((w9.setCell ⟨bg, 1, none⟩ (.slice (some ⟨g', 0, none⟩) (lt.length + 1) c9')).cell? ⟨bs, 1, none⟩ = some (.slice (some ⟨b, o, none⟩) SL.length c9)) := by show _ = _; rw [World.cell?_setCell_other _ _ _ _ (fun e => HB3g.out.1 (congrArg Addr.block e).symm)]; exact hg9
          clear hK K hown9 hgrow9 hat9 hlt9 hR9 hblk y0 y1 y2 hg9 HKA HSa HNW e'
          simp only [Act.put, List.getElem_toArray, List.getElem_cons_succ, List.getElem_cons_zero, List.setIfInBounds_toArray, List.set_cons_succ, List.set_cons_zero]
          refine wpAnyH_take (i := 23) (v := ?v23) rfl (by kernel_rfl) (by kernel_rfl) (by kernel_rfl) (fun _ _ _ h => h) (Or.inl ⟨by rfl, ?hy23⟩) (by assumption) ?rest23
          case hy23 => (intro w hSw; (try dsimp only at hSw); go_simp <;> (try with_reducible rfl))
          simp only [Act.put]
          refine wpAnyH_done (by kernel_rfl) ?_ _
          refine ahead_last rfl (fun K hK => ?_)
          go_simp
          refine hK _ _ ?_
          clear hK K
          go_wp2_with fail
          exact ⟨⟨k + 1, _, h5, by go_num, by show GotAt _ _ _ _ _ _ _ _; rw [HTK.out]; exact HR9.out, HG9.out⟩, by simp [intOf]; omega⟩
        · obtain rfl : k = SL.length := by omega
          rw [List.take_length] at HR
          obtain ⟨sa, sc, rfl⟩ := own_formW HR.out.own
          have HWR := Hid.mk' (wrAt_row HR.out.own)
          have HBr := Hid.mk' (below_chain HB9.out HR.out.below)
          have HB7r := Hid.mk' (below_chain HB79.out HR.out.below)
          have HGC := Hid.mk' (And.intro HR.out.c0 HR.out.c1)
          clear HR HG
          go_wp2_with fail
          refine (HCO.out wr HBr.out).mono ?_
          clear g0
          rintro e w11 ⟨rfl, hb11⟩
          obtain ⟨y0, y1⟩ := HY.out w11 (below_chain HB7r.out hb11)
          have p0 : w11.cell? ⟨bg, 0, none⟩ = some (.int .i64 (N - 1)) := by rw [hb11.cell (cell_lt HGC.out.1)]; exact HGC.out.1
          have p1 : w11.cell? ⟨bg, 1, none⟩ = some (.slice sa SL.length sc) := by rw [hb11.cell (cell_lt HGC.out.2)]; exact HGC.out.2
          have HSN2 := Hid.mk' (SameNet_any (N - 1) (.slice sa SL.length sc) (.slice aw SL.length cw) SL w11 (HWR.out.later hb11) (HV7.out.later (below_chain HB7r.out hb11)) HSLL.out)
          have HB11 := Hid.mk' (below_chain HBr.out hb11)
          clear hb11
          go_wp2_with fail
          refine HSN2.out.mono ?_
          rintro e w12 ⟨rfl, hb12⟩
          have HB12 := Hid.mk' (below_chain HB11.out hb12)
          clear hb12
          go_wp2_with fail
          go_ret
          exact ⟨rfl, HEND.out _ HB12.out⟩
    · have hd : ((E : Int) == 0) = false := by rw [beq_eq_false_iff_ne]; omega
      have HZ := Hid.mk' hz
      clear hz HSLL
      have hW7 := Hid.mk' HB5.out
      go_upto_region 8 with fail
      clear hd q0 q1 z0 z1
      obtain ⟨SL, hSL⟩ : ∃ l : List Wr, l = [] := ⟨_, rfl⟩
      have HSN := Hid.mk' hSL
      have HSLL : Hid (SL.length ≤ 1000) := by show _ ≤ _; rw [hSL]; decide
      obtain ⟨aw, haw⟩ : ∃ aw : Option Addr, aw = none := ⟨_, rfl⟩
      obtain ⟨cw, hcw⟩ : ∃ cw : Nat, cw = 0 := ⟨_, rfl⟩
      have y1b : W5.cell? ⟨bw, 1, none⟩ = some (.slice aw SL.length cw) := by rw [haw, hcw, hSL]; exact y1
      have HV7 : Hid (WrAt W5 (.slice aw SL.length cw) SL) := by show WrAt _ _ _; rw [haw, hcw, hSL]; exact wr_nil W5
      clear y1 haw hcw hSL
      have y1 := y1b
      clear y1b
      have HB7 := Hid.mk' HB5.out
      obtain ⟨q0, q1⟩ := HC.out _ HB7.out
      have HY := Hid.mk' (fun (W : World) (hb : Below W5.heap.size W5 W) => (⟨by rw [hb.cell (cell_lt y0)]; exact y0, by rw [hb.cell (cell_lt y1)]; exact y1⟩ : W.cell? ⟨bw, 0, none⟩ = some (.int .i64 0) ∧ W.cell? ⟨bw, 1, none⟩ = some (.slice aw SL.length cw)))
      clear y0 y1
      go_wp2_with fail
      refine (HNET.out W5 HB7.out).mono ?_
      clear q0 q1
      rintro e w8 ⟨v8, rfl, hv8, hb8⟩
      have HB8 := Hid.mk' (below_chain HB7.out hb8)
      have HB78 := Hid.mk' hb8
      have HV8 := Hid.mk' hv8
      obtain ⟨a8, c8, rfl⟩ := hv8.form
      clear hv8 hb8
      go_wp2_with fail
      refine (HSH.out w8 _ HB8.out HV8.out).mono ?_
      rintro e w9 ⟨n9, v9, rfl, hs0, hs1, hb9⟩
      have HB9 := Hid.mk' (below_chain HB8.out hb9)
      have HB79 := Hid.mk' (below_chain HB78.out hb9)
      obtain ⟨rfl, hvn⟩ := hs0 HZ.out
      have hv9 : WrAt w9 v9 SL := by rw [hvn, HSN.out]; exact wr_nil w9
      clear hvn
      obtain ⟨a9, c9, rfl⟩ := hv9.form
      obtain ⟨EV, hEV⟩ : ∃ EV, EV = errV a E := ⟨_, rfl⟩
      have HCO : Hid (∀ W, Below W1.heap.size W1 W → Calls Tryd.prog 8 #[EV, .int .i64 (E : Int)] W fun e w' => e = .returned (.bool true) ∧ Below W.heap.size W w') := fun W hb => by rw [hEV]; exact coded_errV a E HLE.out W (HE.out _ hb)
      rw [← hEV]
      clear hEV hs0 hs1 hb9
      have HLS := Hid.mk' (fun (W : World) (hb : Below w9.heap.size w9 W) => hv9.later hb)
      clear hv9
      obtain ⟨W3, hW3⟩ : ∃ W3, W3 = (w9.alloc (.cells #[.int .i64 0, .slice a9 SL.length c9] 34)).alloc (.cells #[.int .i64 0, .slice none 0 0] 24) := ⟨_, rfl⟩
      have hR0 : GotAt 48 w9 W3 (w9.heap.size + 2) (w9.heap.size + 1) 0 (.slice none 0 0) [] := by
        rw [hW3]
        refine ⟨((Below.refl _ _).alloc (Nat.le_refl _) _).alloc (by simp) _, by simp, ⟨by omega, by omega⟩, ?_, ?_, ?_, World.ownsRow_nil _ _ _ _⟩
        all_goals go_simp
      obtain ⟨bs, hbs⟩ : ∃ bs, bs = w9.heap.size := ⟨_, rfl⟩
      have g0 : W3.cell? ⟨bs, 1, none⟩ = some (.slice a9 SL.length c9) := by rw [hW3, hbs]; go_simp
      have HR0 := Hid.mk' hR0
      clear hR0
      go_upto_region 10 with fail
      rw [← hW3]
      have HB3g : Hid (bs ≠ w9.heap.size + 1 ∧ bs < w9.heap.size + 2) := by show _ ∧ _; omega
      clear hW3
      generalize w9.heap.size + 2 = B at *
      generalize w9.heap.size + 1 = bg at *
      rw [← hbs]
      clear hbs
      have HG0 := Hid.mk' g0
      clear g0
      have hslp : SL.length ≤ 1000 := HSLL.out
      go_wp2_with fail
      go_loopw [13] (fun t wr => ∃ (k : Nat) (sv : Value), k ≤ SL.length ∧ t = .int .i64 (k : Int) ∧ Hid (GotAt 48 w9 wr B bg 0 sv (SL.take k)) ∧ Hid (wr.cell? ⟨bs, 1, none⟩ = some (.slice a9 SL.length c9))) (fun t _ => SL.length - (intOf t).toNat)
      case atStart => exact ⟨0, _, Nat.zero_le _, rfl, HR0.out, HG0.out⟩
      case round =>
        clear HR0 HG0
        obtain ⟨k, sv, hk, rfl, HR, HG⟩ := hrel
        have g0 := HG.out
        rcases Nat.lt_or_ge k SL.length with h5 | h5
        · obtain ⟨lt, hlt⟩ : ∃ lt, lt = SL.take k := ⟨_, rfl⟩
          rw [← hlt] at HR
          obtain ⟨sa, sc, rfl⟩ := own_formW HR.out.own
          obtain ⟨x, hx⟩ : ∃ x, SL[k]? = some x := ⟨_, List.getElem?_eq_getElem h5⟩
          obtain ⟨b, o, rfl, x0, x1, x2⟩ := (HLS.out wr HR.out.below).at hx
          have HTK : Hid (SL.take (k + 1) = lt ++ [x]) := by
            show _ = _
            rw [hlt]
            obtain ⟨hi, rfl⟩ := List.getElem?_eq_some_iff.1 hx
            exact List.take_succ_eq_append_getElem hi
          have hkI : (k : Int) < (SL.length : Int) := by omega
          have hk0 : (0 : Int) ≤ (k : Int) := by omega
          have c1 := HR.out.c1
          have HKS : Hid (∀ W, Below wr.heap.size wr W → W.cell? ⟨bs, 1, none⟩ = some (.slice (some ⟨b, o, none⟩) SL.length c9) ∧ W.cell? ⟨b, o + k * 3, none⟩ = some (.int .i64 x.a) ∧ W.cell? ⟨b, o + k * 3 + 1, none⟩ = some (.int .i64 x.b) ∧ W.cell? ⟨b, o + k * 3 + 2, none⟩ = some (.int .i64 x.c) ∧ W.cell? ⟨bg, 1, none⟩ = some (.slice sa lt.length sc)) := fun W hb => ⟨by rw [hb.cell (cell_lt g0)]; exact g0, by rw [hb.cell (cell_lt x0)]; exact x0, by rw [hb.cell (cell_lt x1)]; exact x1, by rw [hb.cell (cell_lt x2)]; exact x2, by rw [hb.cell (cell_lt c1)]; exact c1⟩
          have HSL : Hid (lt.length ≤ 1000) := by show _ ≤ _; rw [hlt, List.length_take]; omega
          have HXX := Hid.mk' hx
          have HRd := Hid.mk' (HR.out.later (Below.refl wr.heap.size wr).drew)
          have hcur : Below wr.heap.size wr wr.drew := (Below.refl _ _).drew
          have HBXl : Hid (bs < wr.heap.size) := cell_lt g0
          clear hlt hx HR HG x0 x1 x2 c1
          go_wp2_with fail
          clear g0
          refine region_but_last (n := 24) (S := fun W => W.cell? ⟨bs, 1, none⟩ = some (.slice (some ⟨b, o, none⟩) SL.length c9) ∧ W.cell? ⟨b, o + k * 3, none⟩ = some (.int .i64 x.a) ∧ W.cell? ⟨b, o + k * 3 + 1, none⟩ = some (.int .i64 x.b) ∧ W.cell? ⟨b, o + k * 3 + 2, none⟩ = some (.int .i64 x.c) ∧ W.cell? ⟨bg, 1, none⟩ = some (.slice sa lt.length sc)) (by kernel_rfl) (by kernel_rfl) (by kernel_rfl) (HKS.out _ hcur) (fun hHeld => ?_)
          have HKD := Hid.mk' (fun (W : World) (hb : Below wr.drew.heap.size wr.drew W) => HKS.out W (below_chain hcur hb))
          generalize wr.drew = Wd at *
          refine wpAnyH_take (i := 0) (v := ?vb0) rfl (by kernel_rfl) (by kernel_rfl) (by kernel_rfl) (fun _ _ _ h => h) (Or.inl ⟨by rfl, ?hyb0⟩) (by assumption) ?restb0
          case hyb0 => (intro w hSw; (try dsimp only at hSw); go_simp <;> (try with_reducible rfl))
          simp only [Act.put]
          refine wpAnyH_take (i := 1) (v := ?vb1) rfl (by kernel_rfl) (by kernel_rfl) (by kernel_rfl) (fun _ _ _ h => h) (Or.inl ⟨by rfl, ?hyb1⟩) (by assumption) ?restb1
          case hyb1 => (intro w hSw; (try dsimp only at hSw); go_simp <;> (try with_reducible rfl))
          simp only [Act.put]
          refine wpAnyH_take (i := 2) (v := ?vb2) rfl (by kernel_rfl) (by kernel_rfl) (by kernel_rfl) (fun _ _ _ h => h) (Or.inl ⟨by rfl, ?hyb2⟩) (by assumption) ?restb2
          case hyb2 => (intro w hSw; (try dsimp only at hSw); go_simp <;> (try with_reducible rfl))
          simp only [Act.put]
          refine wpAnyH_take (i := 3) (v := ?vb3) rfl (by kernel_rfl) (by kernel_rfl) (by kernel_rfl) (fun _ _ _ h => h) (Or.inl ⟨by rfl, ?hyb3⟩) (by assumption) ?restb3
          case hyb3 => (intro w hSw; (try dsimp only at hSw); go_simp <;> (try with_reducible rfl))
          simp only [Act.put]
          refine wpAnyH_take (i := 4) (v := ?vb4) rfl (by kernel_rfl) (by kernel_rfl) (by kernel_rfl) (fun _ _ _ h => h) (Or.inl ⟨by rfl, ?hyb4⟩) (by assumption) ?restb4
          case hyb4 => (intro w hSw; (try dsimp only at hSw); go_simp <;> (try with_reducible rfl))
          simp only [Act.put]
          refine wpAnyH_take (i := 5) (v := ?vb5) rfl (by kernel_rfl) (by kernel_rfl) (by kernel_rfl) (fun _ _ _ h => h) (Or.inl ⟨by rfl, ?hyb5⟩) (by assumption) ?restb5
          case hyb5 => (intro w hSw; (try dsimp only at hSw); go_simp <;> (try with_reducible rfl))
          simp only [Act.put]
          refine wpAnyH_take (i := 6) (v := ?vb6) rfl (by kernel_rfl) (by kernel_rfl) (by kernel_rfl) (fun _ _ _ h => h) (Or.inl ⟨by rfl, ?hyb6⟩) (by assumption) ?restb6
          case hyb6 => (intro w hSw; (try dsimp only at hSw); go_simp <;> (try with_reducible rfl))
          simp only [Act.put]
          refine wpAnyH_take (i := 7) (v := ?vb7) rfl (by kernel_rfl) (by kernel_rfl) (by kernel_rfl) (fun _ _ _ h => h) (Or.inl ⟨by rfl, ?hyb7⟩) (by assumption) ?restb7
          case hyb7 => (intro w hSw; (try dsimp only at hSw); go_simp <;> (try with_reducible rfl))
          simp only [Act.put]
          refine wpAnyH_take (i := 8) (v := ?vb8) rfl (by kernel_rfl) (by kernel_rfl) (by kernel_rfl) (fun _ _ _ h => h) (Or.inl ⟨by rfl, ?hyb8⟩) (by assumption) ?restb8
          case hyb8 => (intro w hSw; (try dsimp only at hSw); go_simp <;> (try with_reducible rfl))
          simp only [Act.put]
          refine wpAnyH_take (i := 9) (v := ?vb9) rfl (by kernel_rfl) (by kernel_rfl) (by kernel_rfl) (fun _ _ _ h => h) (Or.inl ⟨by rfl, ?hyb9⟩) (by assumption) ?restb9
          case hyb9 => (intro w hSw; (try dsimp only at hSw); go_simp <;> (try with_reducible rfl))
          simp only [Act.put]
          refine wpAnyH_take (i := 10) (v := ?vb10) rfl (by kernel_rfl) (by kernel_rfl) (by kernel_rfl) (fun _ _ _ h => h) (Or.inl ⟨by rfl, ?hyb10⟩) (by assumption) ?restb10
          case hyb10 => (intro w hSw; (try dsimp only at hSw); go_simp <;> (try with_reducible rfl))
          simp only [Act.put]
          refine wpAnyH_take (i := 11) (v := ?vb11) rfl (by kernel_rfl) (by kernel_rfl) (by kernel_rfl) (fun _ _ _ h => h) (Or.inl ⟨by rfl, ?hyb11⟩) (by assumption) ?restb11
          case hyb11 => (intro w hSw; (try dsimp only at hSw); go_simp <;> (try with_reducible rfl))
          simp only [Act.put]
          refine wpAnyH_take (i := 12) (v := ?vb12) rfl (by kernel_rfl) (by kernel_rfl) (by kernel_rfl) (fun _ _ _ h => h) (Or.inl ⟨by rfl, ?hyb12⟩) (by assumption) ?restb12
          case hyb12 => (intro w hSw; (try dsimp only at hSw); go_simp <;> (try with_reducible rfl))
          simp only [Act.put]
          refine wpAnyH_take (i := 13) (v := ?vb13) rfl (by kernel_rfl) (by kernel_rfl) (by kernel_rfl) (fun _ _ _ h => h) (Or.inl ⟨by rfl, ?hyb13⟩) (by assumption) ?restb13
          case hyb13 => (intro w hSw; (try dsimp only at hSw); go_simp <;> (try with_reducible rfl))
          simp only [Act.put]
          refine wpAnyH_take (i := 14) (v := ?vb14) rfl (by kernel_rfl) (by kernel_rfl) (by kernel_rfl) (fun _ _ _ h => h) (Or.inl ⟨by rfl, ?hyb14⟩) (by assumption) ?restb14
          case hyb14 => (intro w hSw; (try dsimp only at hSw); go_simp <;> (try with_reducible rfl))
          simp only [Act.put]
          refine wpAnyH_take (i := 15) (v := ?vb15) rfl (by kernel_rfl) (by kernel_rfl) (by kernel_rfl) (fun _ _ _ h => h) (Or.inl ⟨by rfl, ?hyb15⟩) (by assumption) ?restb15
          case hyb15 => (intro w hSw; (try dsimp only at hSw); go_simp <;> (try with_reducible rfl))
          simp only [Act.put]
          refine wpAnyH_take (i := 16) (v := ?vb16) rfl (by kernel_rfl) (by kernel_rfl) (by kernel_rfl) (fun _ _ _ h => h) (Or.inl ⟨by rfl, ?hyb16⟩) (by assumption) ?restb16
          case hyb16 => (intro w hSw; (try dsimp only at hSw); go_simp <;> (try with_reducible rfl))
          simp only [Act.put]
          refine wpAnyH_take (i := 17) (v := ?vb17) rfl (by kernel_rfl) (by kernel_rfl) (by kernel_rfl) (fun _ _ _ h => h) (Or.inl ⟨by rfl, ?hyb17⟩) (by assumption) ?restb17
          case hyb17 => (intro w hSw; (try dsimp only at hSw); go_simp <;> (try with_reducible rfl))
          simp only [Act.put]
          refine wpAnyH_take (i := 18) (v := ?vb18) rfl (by kernel_rfl) (by kernel_rfl) (by kernel_rfl) (fun _ _ _ h => h) (Or.inl ⟨by rfl, ?hyb18⟩) (by assumption) ?restb18
          case hyb18 => (intro w hSw; (try dsimp only at hSw); go_simp <;> (try with_reducible rfl))
          simp only [Act.put]
          refine wpAnyH_take (i := 19) (v := ?vb19) rfl (by kernel_rfl) (by kernel_rfl) (by kernel_rfl) (fun _ _ _ h => h) (Or.inl ⟨by rfl, ?hyb19⟩) (by assumption) ?restb19
          case hyb19 => (intro w hSw; (try dsimp only at hSw); go_simp <;> (try with_reducible rfl))
          simp only [Act.put]
          refine wpAnyH_take (i := 20) (v := ?vb20) rfl (by kernel_rfl) (by kernel_rfl) (by kernel_rfl) (fun _ _ _ h => h) (Or.inl ⟨by rfl, ?hyb20⟩) (by assumption) ?restb20
          case hyb20 => (intro w hSw; (try dsimp only at hSw); go_simp <;> (try with_reducible rfl))
          simp only [Act.put]
          refine wpAnyH_ready (rs := [21]) (by kernel_rfl) (by simp) ?_
          refine AllReadyH.cons rfl (fun K hK => ?_) AllReadyH.nil
          go_simp
          have hba : Below Wd.heap.size Wd (Wd.alloc (.cells #[.int .i64 x.a, .int .i64 x.b, .int .i64 x.c] 48)) := (Below.refl _ _).alloc (Nat.le_refl _) _
          have HRa := Hid.mk' (HRd.out.later hba)
          have HNW := Hid.mk' (three_newW Wd (.int .i64 x.a) (.int .i64 x.b) (.int .i64 x.c) 48)
          have HSa := Hid.mk' (HKD.out _ hba)
          refine hK.out _ _ HSa.out (fun hHeld => ?_)
          have HKA := Hid.mk' (fun (W : World) (hb : Below (Wd.alloc (.cells #[.int .i64 x.a, .int .i64 x.b, .int .i64 x.c] 48)).heap.size (Wd.alloc (.cells #[.int .i64 x.a, .int .i64 x.b, .int .i64 x.c] 48)) W) => HKD.out W (below_chain hba hb))
          clear hK K hba HRd HKD
          generalize Wd.alloc (.cells #[.int .i64 x.a, .int .i64 x.b, .int .i64 x.c] 48) = Wa at *
          generalize Wd.heap.size = nb at *
          have hsz := HRa.out.hB
          refine wpAnyH_ready (rs := [22]) (by kernel_rfl) (by simp) ?_
          refine AllReadyH.cons rfl (fun K hK => ?_) AllReadyH.nil
          refine step_append_lies _ rfl _ _ _ rfl B 48 i _ 3 24 Tryd.underlying22 HINF.out.1 HINF.out.2.1 HINF.out.2.2.1 HINF.out.2.2.2 rfl (by omega) (.slice sa lt.length sc) lt.length (wrsC lt) (by rfl) HRa.out.own ⟨nb, 0, none⟩ 1 1 [.int .i64 x.a, .int .i64 x.b, .int .i64 x.c] rfl rfl HNW.out (by simp [Value.oneCell']) (by omega) (by have := HSL.out; unfold maxLen; omega) (by have := HSL.out; omega) hsz _ rfl ?_
          intro g' c9' w9 hown9 hgrow9 hat9 hlt9
          obtain ⟨p0, p1, pf, hR9⟩ := HRa.out.push x hgrow9 hown9
          have HR9 := Hid.mk' hR9
          have hblk : ∀ q, q < B → w9.heap[q]? = Wa.heap[q]? := fun q hq => hgrow9.block q (Nat.lt_of_lt_of_le hq hsz) (fun e => by have := (own_geW HRa.out.own e.symm).1; omega)
          have hg9 : w9.cell? ⟨bs, 1, none⟩ = some (.slice (some ⟨b, o, none⟩) SL.length c9) := by rw [World.cell?_of_block (a := ⟨bs, 1, none⟩) (hblk bs HB3g.out.2)]; exact HSa.out.1
          obtain ⟨b', o', e', y0, y1, y2⟩ := (HLS.out w9 (HRa.out.below.grown hgrow9 HRa.out.below.size (fun q hq => by have := (own_geW HRa.out.own hq).1; have := HRa.out.lt; omega))).at (show SL[k]? = some x from HXX.out)
          obtain ⟨rfl, rfl⟩ : b = b' ∧ o = o' := by simpa using e'
          refine hK.out _ _ ⟨hg9, y0, y1, y2, p1⟩ (fun hHeld => ?_)
          have HG9 : Hid ((w9.setCell ⟨bg, 1, none⟩ (.slice (some ⟨g', 0, none⟩) (lt.length + 1) c9')).cell? ⟨bs, 1, none⟩ = some (.slice (some ⟨b, o, none⟩) SL.length c9)) := by show _ = _; rw [World.cell?_setCell_other _ _ _ _ (fun e => HB3g.out.1 (congrArg Addr.block e).symm)]; exact hg9
          clear hK K hown9 hgrow9 hat9 hlt9 hR9 hblk y0 y1 y2 hg9 HKA HSa HNW e'
          simp only [Act.put, List.getElem_toArray, List.getElem_cons_succ, List.getElem_cons_zero, List.setIfInBounds_toArray, List.set_cons_succ, List.set_cons_zero]
          refine wpAnyH_take (i := 23) (v := ?vb23) rfl (by kernel_rfl) (by kernel_rfl) (by kernel_rfl) (fun _ _ _ h => h) (Or.inl ⟨by rfl, ?hyb23⟩) (by assumption) ?restb23
          case hyb23 => (intro w hSw; (try dsimp only at hSw); go_simp <;> (try with_reducible rfl))
          simp only [Act.put]
          refine wpAnyH_done (by kernel_rfl) ?_ _
          refine ahead_last rfl (fun K hK => ?_)
          go_simp
          refine hK _ _ ?_
          clear hK K
          go_wp2_with fail
          exact ⟨⟨k + 1, _, h5, by go_num, by show GotAt _ _ _ _ _ _ _ _; rw [HTK.out]; exact HR9.out, HG9.out⟩, by simp [intOf]; omega⟩
        · obtain rfl : k = SL.length := by omega
          rw [List.take_length] at HR
          obtain ⟨sa, sc, rfl⟩ := own_formW HR.out.own
          have HWR := Hid.mk' (wrAt_row HR.out.own)
          have HBr := Hid.mk' (below_chain HB9.out HR.out.below)
          have HB7r := Hid.mk' (below_chain HB79.out HR.out.below)
          have HGC := Hid.mk' (And.intro HR.out.c0 HR.out.c1)
          clear HR HG
          go_wp2_with fail
          refine (HCO.out wr HBr.out).mono ?_
          clear g0
          rintro e w11 ⟨rfl, hb11⟩
          obtain ⟨y0, y1⟩ := HY.out w11 (below_chain HB7r.out hb11)
          have p0 : w11.cell? ⟨bg, 0, none⟩ = some (.int .i64 0) := by rw [hb11.cell (cell_lt HGC.out.1)]; exact HGC.out.1
          have p1 : w11.cell? ⟨bg, 1, none⟩ = some (.slice sa SL.length sc) := by rw [hb11.cell (cell_lt HGC.out.2)]; exact HGC.out.2
          have HSN2 := Hid.mk' (SameNet_any 0 (.slice sa SL.length sc) (.slice aw SL.length cw) SL w11 (HWR.out.later hb11) (HV7.out.later (below_chain HB7r.out hb11)) HSLL.out)
          have HB11 := Hid.mk' (below_chain HBr.out hb11)
          clear hb11
          go_wp2_with fail
          refine HSN2.out.mono ?_
          rintro e w12 ⟨rfl, hb12⟩
          have HB12 := Hid.mk' (below_chain HB11.out hb12)
          clear hb12
          go_wp2_with fail
          go_ret
          exact ⟨rfl, HEND.out _ HB12.out⟩
  · rw [decide_eq_false h100] at HTH
    go_wp2_with fail
    refine HTH.out.mono ?_
    clear q0 q1
    rintro e w3 ⟨rfl, hb3⟩
    have HB3 := Hid.mk' (below_chain HB2.out hb3)
    clear hb3 HTH
    go_wp2_with fail
    go_ret
    exact ⟨rfl, HEND.out _ HB3.out⟩
end Go.Proofs.YtlnhpkmcinohdaaDoor

/- What the rows' condition on package variables gives a walk: eight different sentinels with their texts, and the handle of the type error. -/
namespace Go.Proofs.YtlnhpkmcinohdaaDoor
open Go.ChangeShapes Go.WideShapes Go.RowKit

theorem Tryd.own : ownKnob Tryd.prog.godebug = none := by kernel_rfl
theorem Tryd.et : Tryd.prog.globalNamed "errors.errorType" = some 8 := by kernel_rfl
theorem Tryd.rt : (Tryd.prog.cutTypes.find? (·.1 == "internal/reflectlite.rtype")).map (·.2) = some 118 := by kernel_rfl
theorem Tryd.oneRow : ((List.range 176).filter fun t => Tryd.prog.rowNamed t [101, 114, 114, 111, 114]) = [30] := by kernel_rfl
theorem Tryd.size : Tryd.prog.types.size = 176 := by kernel_rfl
theorem Tryd.star : ("*" ++ "errors.errorString" : String) = "*errors.errorString" := by decide
theorem Tryd.rowE (u : TypeId) (h : Tryd.prog.typeName? 3 u = some "*errors.errorString") : u = 143 :=
  typeName_ptr_named (nm := "errors.errorString") (by rw [Tryd.star]; kernel_rfl) (by kernel_rfl) (by decide) u (by rw [Tryd.star]; exact h)
theorem Tryd.cellsE : Tryd.prog.cellsOf 164 = 1 := by kernel_rfl
theorem Tryd.cellsS : Tryd.prog.cellsOf 9 = 1 := by kernel_rfl
theorem Tryd.g0 : Tryd.prog.globalNamed "demon/api.ErrText" = some 3 := by kernel_rfl
theorem Tryd.g1 : Tryd.prog.globalNamed "demon/api.ErrBound" = some 0 := by kernel_rfl
theorem Tryd.g2 : Tryd.prog.globalNamed "demon/api.ErrShape" = some 1 := by kernel_rfl
theorem Tryd.g3 : Tryd.prog.globalNamed "demon/api.ErrZero" = some 4 := by kernel_rfl
theorem Tryd.g4 : Tryd.prog.globalNamed "demon/api.ErrName" = some 5 := by kernel_rfl
theorem Tryd.g5 : Tryd.prog.globalNamed "demon/api.ErrNone" = some 2 := by kernel_rfl
theorem Tryd.g6 : Tryd.prog.globalNamed "demon/api.ErrOrder" = some 6 := by kernel_rfl
theorem Tryd.g7 : Tryd.prog.globalNamed "demon/api.ErrKind" = some 7 := by kernel_rfl

/-- Any number of listed sentinels of one type: each one's pointer, text and row; no two are one. -/
theorem laid_list {P : Program} {W : World} {nm : String} {ti tp te ts : TypeId} {ms : Array (String × TypeId)} {f : Field}
    (hi : P.underlying ti = some (.interface ms)) (hrow : ∀ u, P.typeName? 3 u = some nm → u = tp)
    (hp : P.underlying tp = some (.pointer te)) (he : P.underlying te = some (.struct #[f])) (hft : f.type = ts) (hfo : f.offset = 0) (hs : P.underlying ts = some .string) (hc : P.cellsOf te = 1) (hcs : P.cellsOf ts = 1) :
    ∀ (L : List (String × List UInt8)) (ps : List MemPlace), (∀ x, x ∈ L → ∃ g, P.globalNamed x.1 = some g ∧ (P.globals[g]?).map (·.type) = some ti) →
      DataW.LaidVars P W (L.map fun x => (x.1, .iface nm (.ptr (.agg [.lit (.string x.2)])))) ps → ps.Nodup →
      (∀ b off, MemPlace.cell b off ∈ ps → (∃ c t, W.heap[b]? = some (.cells c t (0, 0))) ∧ ∀ u v, W.cell? ⟨b, off, none⟩ = some (.iface u v) → Value.okWide P W .any 0 u v) →
      ∃ a : Nat → Addr, (∀ i x, L[i]? = some x → W.var? P x.1 = some #[.iface tp (.pointer (some (a i)))] ∧ (∃ s, W.cell? (a i) = some (.string s) ∧ s.data.toList = x.2) ∧
          (∃ c t, W.heap[(a i).block]? = some (.cells c t (0, 0))) ∧ MemPlace.cell (a i).block (a i).off ∈ ps) ∧
        ∀ i j, i < L.length → j < L.length → i ≠ j → a i ≠ a j := by
  intro L
  induction L with
  | nil => intro ps _ _ _ _; exact ⟨fun _ => default, fun i x h => by simp at h, fun i j h => by simp at h⟩
  | cons x r ih =>
    intro ps hgs hv hnd hrows
    obtain ⟨n, text⟩ := x
    obtain ⟨g0, t0, cs0, f0, p0, q0, hg0, ht0, hv0, hd0, hvr, e0⟩ := hv
    obtain ⟨g, hg, ht⟩ := hgs (n, text) (List.mem_cons_self ..)
    obtain rfl := Option.some.inj (hg.symm.trans hg0)
    obtain rfl := Option.some.inj (ht.symm.trans ht0)
    subst e0
    obtain ⟨l0⟩ := cs0
    have ok0 : ∀ u v, l0 = [.iface u v] → Value.okWide P W .any 0 u v := fun u v e => by
      subst e
      exact (hrows g 0 (by simp [MemPlace.row])).2 u v (by simpa using World.var?_cell hg0 hv0 0)
    obtain ⟨a0, s0, rfl, hc0, hs0, hz0, rfl⟩ := errorString_of_trod hi hrow hp he hft hfo hs hc hcs hd0 ok0
    obtain ⟨c0, tt0, hb0⟩ := (hrows a0.block a0.off (by simp [MemPlace.row])).1
    have hnq : q0.Nodup := List.Nodup.sublist (List.sublist_append_right _ _) hnd
    obtain ⟨a', ha', hne'⟩ := ih q0 (fun x hx => hgs x (List.mem_cons_of_mem _ hx)) hvr hnq (fun b off hm => hrows b off (List.mem_append_right _ hm))
    have hnot : MemPlace.cell a0.block a0.off ∉ q0 := by
      intro hm
      have := (List.nodup_append.1 hnd).2.2
      exact this (.cell a0.block a0.off) (by simp [MemPlace.row]) (.cell a0.block a0.off) hm rfl
    refine ⟨fun i => match i with | 0 => a0 | k + 1 => a' k, ?_, ?_⟩
    · intro i x hx
      cases i with
      | zero =>
        simp only [List.getElem?_cons_zero, Option.some.injEq] at hx
        subst hx
        exact ⟨hv0, ⟨s0, hc0, hs0⟩, ⟨c0, tt0, hb0⟩, by simp [MemPlace.row]⟩
      | succ k =>
        simp only [List.getElem?_cons_succ] at hx
        obtain ⟨h1, h2, h3, h4⟩ := ha' k x hx
        exact ⟨h1, h2, h3, List.mem_append_right _ h4⟩
    · have far : ∀ k, k < r.length → a0 ≠ a' k := fun k hk e => by
        obtain ⟨_, _, _, h4⟩ := ha' k r[k] (by simp [hk])
        rw [← e] at h4
        exact hnot h4
      intro i j hi' hj' hij
      cases i with
      | zero =>
        cases j with
        | zero => exact absurd rfl hij
        | succ k => exact far k (by simpa using hj')
      | succ m =>
        cases j with
        | zero => exact (far m (by simpa using hi')).symm
        | succ k => exact hne' m k (by simpa using hi') (by simpa using hj') (by omega)

/-- The names and texts, in the rows' order. -/
def eightNames : List (String × List UInt8) := [("demon/api.ErrText", [100, 101, 109, 111, 110, 58, 32, 116, 101, 120, 116]), ("demon/api.ErrBound", [100, 101, 109, 111, 110, 58, 32, 98, 111, 117, 110, 100]), ("demon/api.ErrShape", [100, 101, 109, 111, 110, 58, 32, 115, 104, 97, 112, 101]), ("demon/api.ErrZero", [100, 101, 109, 111, 110, 58, 32, 122, 101, 114, 111]), ("demon/api.ErrName", [100, 101, 109, 111, 110, 58, 32, 110, 97, 109, 101]), ("demon/api.ErrNone", [100, 101, 109, 111, 110, 58, 32, 110, 111, 110, 101]), ("demon/api.ErrOrder", [100, 101, 109, 111, 110, 58, 32, 111, 114, 100, 101, 114]), ("demon/api.ErrKind", [100, 101, 109, 111, 110, 58, 32, 107, 105, 110, 100])]
def laidAll : List (String × DataW Unit) := [("errors.errorType", Rows.laid_errors_errorType), ("demon/api.ErrText", Rows.laid_demon_api_ErrText), ("demon/api.ErrBound", Rows.laid_demon_api_ErrBound), ("demon/api.ErrShape", Rows.laid_demon_api_ErrShape), ("demon/api.ErrZero", Rows.laid_demon_api_ErrZero), ("demon/api.ErrName", Rows.laid_demon_api_ErrName), ("demon/api.ErrNone", Rows.laid_demon_api_ErrNone), ("demon/api.ErrOrder", Rows.laid_demon_api_ErrOrder), ("demon/api.ErrKind", Rows.laid_demon_api_ErrKind)]
theorem laidAll_parts (W : World) : laidMetH Tryd.prog laidAll W = (laidMet Tryd.prog (eightNames.map fun x => (x.1, .iface "*errors.errorString" (.ptr (.agg [.lit (.string x.2)])))) W ∧ handlesMet Tryd.prog [("errors.errorType", Rows.laid_errors_errorType)] W) := by kernel_rfl

theorem var_at {W : World} {n : String} {g : Nat} {v : Value} (hg : Tryd.prog.globalNamed n = some g) (h : W.var? Tryd.prog n = some #[v]) : W.cell? ⟨g, 0, none⟩ = some v := by
  simpa using World.var?_cell hg h 0

theorem errs_of_laid {W : World} (h : laidMetH Tryd.prog laidAll W) : ∃ a : Nat → Addr, Errs W a ∧ ∀ i x, eightNames[i]? = some x → ∃ s, W.cell? (a i) = some (.string s) ∧ s.data.toList = x.2 := by
  rw [laidAll_parts] at h
  obtain ⟨⟨ps, hv, hnd, hrows⟩, hh⟩ := h
  obtain ⟨name, u, ty, e1, e2, e3, e4, e5⟩ := hh _ (List.mem_singleton.2 rfl)
  have en : name = [101, 114, 114, 111, 114] := (Option.some.inj e1).symm
  subst en
  obtain rfl := Option.some.inj (Tryd.rt.symm.trans e2)
  have hm : ty ∈ (List.range 176).filter fun t => Tryd.prog.rowNamed t [101, 114, 114, 111, 114] := List.mem_filter.2 ⟨List.mem_range.2 (by rw [← Tryd.size]; exact e3), e4⟩
  rw [Tryd.oneRow] at hm
  obtain rfl := List.mem_singleton.1 hm
  have hth : typeHandle Tryd.prog 30 = .pointer (some ⟨9, 30, none⟩) := by kernel_rfl
  rw [hth] at e5
  obtain ⟨a, ha, hne⟩ := laid_list Tryd.underlying30 Tryd.rowE Tryd.underlying143 Tryd.underlying164 rfl rfl Tryd.underlying9 Tryd.cellsE Tryd.cellsS eightNames ps
    (fun x hx => by
      simp only [eightNames, List.mem_cons, List.not_mem_nil, or_false] at hx
      rcases hx with rfl | rfl | rfl | rfl | rfl | rfl | rfl | rfl
      · exact ⟨_, Tryd.g0, by kernel_rfl⟩
      · exact ⟨_, Tryd.g1, by kernel_rfl⟩
      · exact ⟨_, Tryd.g2, by kernel_rfl⟩
      · exact ⟨_, Tryd.g3, by kernel_rfl⟩
      · exact ⟨_, Tryd.g4, by kernel_rfl⟩
      · exact ⟨_, Tryd.g5, by kernel_rfl⟩
      · exact ⟨_, Tryd.g6, by kernel_rfl⟩
      · exact ⟨_, Tryd.g7, by kernel_rfl⟩) hv hnd hrows
  refine ⟨a, ⟨var_at Tryd.g0 (ha 0 _ rfl).1, var_at Tryd.g1 (ha 1 _ rfl).1, var_at Tryd.g2 (ha 2 _ rfl).1, var_at Tryd.g3 (ha 3 _ rfl).1, var_at Tryd.g4 (ha 4 _ rfl).1, var_at Tryd.g5 (ha 5 _ rfl).1, var_at Tryd.g6 (ha 6 _ rfl).1, var_at Tryd.g7 (ha 7 _ rfl).1, var_at Tryd.et e5, ?_, ?_⟩, fun i x hx => (ha i x hx).2.1⟩
  · intro i hi
    have hl : eightNames.length = 8 := rfl
    exact (ha i eightNames[i] (List.getElem?_eq_getElem (by omega))).2.2.1
  · intro i j hi hj hij
    exact hne i j hi hj hij

/-- The door's own heap meets the condition. -/
theorem door_met (os : Os) (args : Array Value) : laidMetH Tryd.prog laidAll ((World.doorLaid Tryd.prog 168 os).forCall (fun _ _ => 0) ⟨#[], args, []⟩).memory :=
  laidMetH_of_parts3 (fuel := 8) (laidMet_of_run' 8 (by kernel_rfl) (by kernel_rfl)) (by kernel_rfl) (by kernel_rfl)
end Go.Proofs.YtlnhpkmcinohdaaDoor

/- A parameter of type demonref5.Net opened: its number, its slice, its wires. -/
namespace Go.Proofs.YtlnhpkmcinohdaaDoor
open Go.ChangeShapes Go.WideShapes Go.ChangeAt Go.RowKit Go.Joins Go.Deep

theorem Tryd.laidOutN : laidOutB Tryd.prog = true := by kernel_rfl
theorem Tryd.cellsNet : Tryd.prog.cellsOf 24 = 2 := by kernel_rfl
theorem Tryd.cellsWi : Tryd.prog.cellsOf 48 = 3 := by kernel_rfl
theorem Tryd.cellsI1N : Tryd.prog.cellsOf 3 = 1 := by kernel_rfl
theorem list_of {α : Type} (n : Nat) (p : Nat → α → Prop) (h : ∀ i, i < n → ∃ c, p i c) : ∃ l : List α, l.length = n ∧ ∀ (i : Nat) (c : α), l[i]? = some c → p i c := by
  induction n with
  | zero => exact ⟨[], rfl, fun i c hc => by simp at hc⟩
  | succ n ih =>
    obtain ⟨l, hl, hp⟩ := ih (fun i hi => h i (by omega))
    obtain ⟨c, hc⟩ := h n (by omega)
    refine ⟨l ++ [c], by simp [hl], fun i d hd => ?_⟩
    rcases Nat.lt_or_ge i l.length with h' | h'
    · rw [List.getElem?_append_left h'] at hd
      exact hp i d hd
    · rw [List.getElem?_append_right h'] at hd
      rcases Nat.eq_or_lt_of_le h' with e | e
      · rw [← e, Nat.sub_self] at hd
        obtain rfl : c = d := by simpa using hd
        rw [← e, hl]; exact hc
      · rw [List.getElem?_eq_none (by simp; omega)] at hd; cases hd
set_option maxRecDepth 100000 in
theorem open_net {H : Type} {enc : TypeId × Value → H} {W : World} {base : Nat} {v : Value} {d : DataW H} {p : List MemPlace} (hv : Value.okWide Tryd.prog W .any base 24 v)
    (h : DataW.Trod enc Tryd.prog W 0 (fun _ => true) true 24 v d p) :
    ∃ (N : Int) (ev : Value) (l : List Wr), v = .agg #[.int .i64 N, ev] ∧ WrAt W ev l ∧ l.length ≤ maxLen := by
  obtain ⟨c0, c1, y0, y1, m, rfl, rfl, rfl, hy0, hy1⟩ := open_agg2 Tryd.underlying24 (by kernel_rfl) Tryd.cellsNet hv h
  obtain ⟨N, e0, _, _⟩ := DataW.trod_int Tryd.underlying3 hy0
  simp at e0
  subst e0
  rcases open_slice Tryd.underlying22 hy1 with ⟨hc, _⟩ | ⟨a, n, cap', m', k, D, Pl, hc, _, hl, hm, hmm, _, hx⟩
  · simp at hc
    subst hc
    exact ⟨N, .slice none 0 0, [], rfl, ⟨_, _, rfl, fun i c hc => by simp at hc⟩, Nat.zero_le _⟩
  · simp at hc
    subst hc
    simp only [if_true] at hmm
    subst hmm
    have each : ∀ i, i < n → ∃ c : Wr, W.cell? (a.add (i * 3)) = some (.int .i64 c.a) ∧ W.cell? (a.add (i * 3 + 1)) = some (.int .i64 c.b) ∧ W.cell? (a.add (i * 3 + 2)) = some (.int .i64 c.c) := by
      intro i hi
      obtain ⟨cs', h1, h2⟩ := hx i (by omega)
      rw [Tryd.cellsWi] at h1
      obtain ⟨_, hlen, hcell⟩ := World.cells?_some h1
      obtain ⟨xs, k', _, _, _, hxl, hg⟩ := DataW.trod_struct Tryd.underlying48 h2
      match xs, hxl, cs', hlen with
      | [y0, y1, y2], _, [v0, v1, v2], _ =>
        have g0 := hg 0 _ rfl
        have g1 := hg 1 _ rfl
        have g2 := hg 2 _ rfl
        simp [Tryd.cellsI1N] at g0 g1 g2
        have e0 := hcell 0 (by omega)
        have e1 := hcell 1 (by omega)
        have e2 := hcell 2 (by omega)
        rw [Go.Deep.add_add] at e0 e1 e2
        obtain ⟨n0, r0, _, _⟩ := DataW.trod_int Tryd.underlying3 g0
        obtain ⟨n1, r1, _, _⟩ := DataW.trod_int Tryd.underlying3 g1
        obtain ⟨n2, r2, _, _⟩ := DataW.trod_int Tryd.underlying3 g2
        simp only [List.cons.injEq, and_true] at r0 r1 r2
        subst r0 r1 r2
        exact ⟨⟨n0, n1, n2⟩, by simpa using e0, by simpa using e1, by simpa using e2⟩
    obtain ⟨l, hll, hlp⟩ := list_of n _ each
    subst hll
    obtain ⟨b, o, spot⟩ := a
    refine ⟨N, _, l, rfl, ⟨_, _, rfl, fun i c hc => ?_⟩, by omega⟩
    obtain ⟨h0, h1, h2⟩ := hlp i c hc
    have hspot : spot = none := by
      have hi : 0 < l.length := by
        rcases Nat.eq_zero_or_pos l.length with h' | h'
        · rw [List.eq_nil_of_length_eq_zero h'] at hc; simp at hc
        · exact h'
      have := (hlp 0 _ (List.getElem?_eq_getElem hi)).1
      simpa [Addr.add] using World.cell?_spot this
    subst hspot
    rw [Go.Proofs.YtlnhpkmcinohdaaDoor.add_plain] at h0 h1 h2
    exact ⟨b, o, rfl, h0, by rw [Nat.add_assoc]; exact h1, by rw [Nat.add_assoc]; exact h2⟩
end Go.Proofs.YtlnhpkmcinohdaaDoor
