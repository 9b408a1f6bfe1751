/- logs.Scale, walked. -/
import Derived.Test.YtklhfagcembigaaGreatDoorPackC
import Derived.Test.YtklhfagcembigaaGreatDoorPackA
import Derived.Test.YtklhfagcembigaaGreatDoorPackB
import Derived.WalkKit
import Derived.Test.YtklhfagcembigaaGreatDoorWeights
import Derived.Test.YtklhfagcembigaaGreatDoorBig
import Derived.Test.YtklhfagcembigaaGreatDoorProg
import Derived.BigQuiet
import Derived.Deep.Onto
import Derived.Test.YtklhfagcembigaaGreatDoorPlus
import Derived.Test.YtklhfagcembigaaGreatDoorWideMath
import Derived.Test.YtklhfagcembigaaGreatDoorWLog
import Derived.Test.YtklhfagcembigaaGreatDoorWTold
import Derived.Test.YtklhfagcembigaaGreatDoorPutEnt
import Derived.Test.YtklhfagcembigaaGreatDoorWToldW
namespace Go.Proofs.YtklhfagcembigaaGreatDoor
open Go.RowKit Go.Maps

/-- What Scale's boxes hold. -/
theorem scale_boxes {w W : World} {x0 y0 y1 : Value} {ad : Option Addr} {nn cap : Nat} (hb : Below (((w.alloc (.cells #[x0, .slice ad nn cap] 27)).alloc (.cells #[y0, y1] 38)).alloc (.cells #[.int .i64 0, .slice none 0 0] 27)).heap.size (((w.alloc (.cells #[x0, .slice ad nn cap] 27)).alloc (.cells #[y0, y1] 38)).alloc (.cells #[.int .i64 0, .slice none 0 0] 27)) W) :
    (W.cell? ⟨w.heap.size, 0, none⟩ = some x0 ∧ W.cell? ⟨w.heap.size, 1, none⟩ = some (.slice ad nn cap)) ∧ (W.cell? ⟨w.heap.size + 1, 0, none⟩ = some y0 ∧ W.cell? ⟨w.heap.size + 1, 1, none⟩ = some y1) ∧ (W.cell? ⟨w.heap.size + 1 + 1, 0, none⟩ = some (.int .i64 0) ∧ W.cell? ⟨w.heap.size + 1 + 1, 1, none⟩ = some (.slice none 0 0)) ∧ W.frozen? ⟨w.heap.size + 1 + 1, 0, none⟩ = false ∧ W.frozen? ⟨w.heap.size + 1 + 1, 1, none⟩ = false := by
  obtain ⟨q0, q1, _, _⟩ := res_past (below_chain (more_below (new_below (w.alloc (.cells #[x0, .slice ad nn cap] 27)) (.cells #[y0, y1] 38)) (.cells #[.int .i64 0, .slice none 0 0] 27)) hb)
  obtain ⟨q2, q3, _, _⟩ := res_past (below_chain (new_below ((w.alloc (.cells #[x0, .slice ad nn cap] 27)).alloc (.cells #[y0, y1] 38)) (.cells #[.int .i64 0, .slice none 0 0] 27)) hb)
  obtain ⟨q4, q5, q6, q7⟩ := res_past hb
  simp only [World.size_alloc] at q2 q3 q4 q5 q6 q7
  exact ⟨⟨q0, q1⟩, ⟨q2, q3⟩, ⟨q4, q5⟩, q6, q7⟩

set_option maxRecDepth 100000 in
set_option maxHeartbeats 2000000 in
/-- Scale where the logarithm is not in form. -/
theorem Scale_bad (da fn fd : Int) (ad : Option Addr) (nn cap : Nat) (p c : Nat → Int) (a : Nat → Addr) (w : World) (h : Errs w a) (hl : LogAt w (.slice ad nn cap) nn p c) (hn : nn ≤ 1000000) (hbad : ¬ OkLog da nn p c) :
    Calls Tryz.prog 39 #[.agg #[.int .i64 da, .slice ad nn cap], .agg #[.int .i64 fn, .int .i64 fd]] w fun e w' => e = .returned (.tuple #[.agg #[.int .i64 0, .slice none 0 0], .iface 183 (.pointer (some (a 2)))]) ∧ Below w.heap.size w w' := by
  obtain ⟨W0, hW⟩ : ∃ W0, W0 = (((w.alloc (.cells #[.int .i64 da, .slice ad nn cap] 27)).alloc (.cells #[.int .i64 fn, .int .i64 fd] 38)).alloc (.cells #[.int .i64 0, .slice none 0 0] 27)) := ⟨_, rfl⟩
  have hb0 : Below w.heap.size w W0 := by rw [hW]; exact more_below (more_below (new_below _ _) _) _
  have HC : Hid (∀ W, Below W0.heap.size W0 W → _) := fun W hb => scale_boxes (by rw [hW] at hb; exact hb)
  have hv := Valid_log da _ nn p c a false ⟨(fun e => by cases e), (fun e => absurd e hbad)⟩ W0 (h.below hb0) (hl.later hb0) hn
  simp only [shapeErr] at hv
  obtain ⟨⟨k0, k1⟩, _⟩ := HC.out W0 (Below.refl _ _)
  have HW := Hid.mk' hW
  have HB0 := Hid.mk' hb0
  clear h hl hb0 hW hbad
  go_enter Tryz.func39, Tryz.ntmps39
  go_wp2_with fail
  rw [← HW.out]
  refine hv.mono ?_
  clear hv k0 k1
  rintro e w1 ⟨rfl, hb1⟩
  obtain ⟨_, _, ⟨r0, r1⟩, f0, f1⟩ := HC.out w1 hb1
  have HB1 := Hid.mk' (below_chain HB0.out hb1)
  clear hb1
  go_wp2_with fail
  refine bodyPost_ret (v := .tuple #[.agg #[.int .i64 0, .slice none 0 0], .iface 183 (.pointer (some (a 2)))]) (by simp [results, Tryz.results39, go_sem, r0, r1]) rfl ⟨rfl, (HB1.out.setCell (by simp; omega) _).setCell (by simp; omega) _⟩

set_option maxRecDepth 100000 in
set_option maxHeartbeats 4000000 in
/-- Scale where the fraction is too great. -/
theorem Scale_far (da fn fd : Int) (ad : Option Addr) (nn cap : Nat) (p c : Nat → Int) (a : Nat → Addr) (w : World) (h : Errs w a) (hl : LogAt w (.slice ad nn cap) nn p c) (hn : nn ≤ 1000000) (hok : OkLog da nn p c) (hfar : fd < 1 ∨ 1073741824 < fd ∨ fn < -1073741824 ∨ 1073741824 < fn) :
    Calls Tryz.prog 39 #[.agg #[.int .i64 da, .slice ad nn cap], .agg #[.int .i64 fn, .int .i64 fd]] w fun e w' => e = .returned (.tuple #[.agg #[.int .i64 0, .slice none 0 0], .iface 183 (.pointer (some (a 2)))]) ∧ Below w.heap.size w w' := by
  obtain ⟨W0, hW⟩ : ∃ W0, W0 = (((w.alloc (.cells #[.int .i64 da, .slice ad nn cap] 27)).alloc (.cells #[.int .i64 fn, .int .i64 fd] 38)).alloc (.cells #[.int .i64 0, .slice none 0 0] 27)) := ⟨_, rfl⟩
  have hb0 : Below w.heap.size w W0 := by rw [hW]; exact more_below (more_below (new_below _ _) _) _
  have HC : Hid (∀ W, Below W0.heap.size W0 W → _) := fun W hb => scale_boxes (by rw [hW] at hb; exact hb)
  have HE : Hid (∀ W, Below W0.heap.size W0 W → W.cell? ⟨1, 0, none⟩ = some (.iface 183 (.pointer (some (a 2))))) := fun W hb => ((h.below hb0).below hb).c2
  have HGS : Hid (1 < w.heap.size) := cell_lt h.c2
  have hv := Valid_log da _ nn p c a true ⟨fun _ => hok, fun _ => rfl⟩ W0 (h.below hb0) (hl.later hb0) hn
  simp only [shapeErr] at hv
  obtain ⟨⟨k0, k1⟩, _⟩ := HC.out W0 (Below.refl _ _)
  have HW := Hid.mk' hW
  have HB0 := Hid.mk' hb0
  clear h hl hb0 hW hok
  by_cases g1 : fd < 1
  · go_enter Tryz.func39, Tryz.ntmps39
    go_wp2_with fail
    rw [← HW.out]
    refine hv.mono ?_
    clear hv k0 k1
    rintro e w1 ⟨rfl, hb1⟩
    obtain ⟨_, ⟨k2, k3⟩, ⟨r0, r1⟩, f0, f1⟩ := HC.out w1 hb1
    have ge := HE.out w1 hb1
    have ges : (w1.setCell ⟨w.heap.size + 1 + 1, 0, none⟩ (.int .i64 0)).cell? ⟨1, 0, none⟩ = some (.iface 183 (.pointer (some (a 2)))) := by rw [World.cell?_setCell_other _ _ _ _ (fun e => by have h9 := congrArg Addr.block e; have h8 := HGS.out; dsimp only at h9; omega)]; exact ge
    have HB1 := Hid.mk' (below_chain HB0.out hb1)
    clear hb1
    go_wp2_with fail
    go_region
    all_goals
      go_wp2_with fail
      refine bodyPost_ret (v := .tuple #[.agg #[.int .i64 0, .slice none 0 0], .iface 183 (.pointer (some (a 2)))]) (by simp [results, Tryz.results39, go_sem, r0, r1]) rfl ⟨rfl, (HB1.out.drew.setCell (by simp; omega) _).setCell (by simp; omega) _⟩
  · by_cases g2 : 1073741824 < fd
    · go_enter Tryz.func39, Tryz.ntmps39
      go_wp2_with fail
      rw [← HW.out]
      refine hv.mono ?_
      clear hv k0 k1
      rintro e w1 ⟨rfl, hb1⟩
      obtain ⟨_, ⟨k2, k3⟩, ⟨r0, r1⟩, f0, f1⟩ := HC.out w1 hb1
      have ge := HE.out w1 hb1
      have ges : (w1.setCell ⟨w.heap.size + 1 + 1, 0, none⟩ (.int .i64 0)).cell? ⟨1, 0, none⟩ = some (.iface 183 (.pointer (some (a 2)))) := by rw [World.cell?_setCell_other _ _ _ _ (fun e => by have h9 := congrArg Addr.block e; have h8 := HGS.out; dsimp only at h9; omega)]; exact ge
      have HB1 := Hid.mk' (below_chain HB0.out hb1)
      clear hb1
      go_wp2_with fail
      go_region
      all_goals
        go_wp2_with fail
        refine bodyPost_ret (v := .tuple #[.agg #[.int .i64 0, .slice none 0 0], .iface 183 (.pointer (some (a 2)))]) (by simp [results, Tryz.results39, go_sem, r0, r1]) rfl ⟨rfl, (HB1.out.drew.setCell (by simp; omega) _).setCell (by simp; omega) _⟩
    · by_cases g3 : fn < -1073741824
      · go_enter Tryz.func39, Tryz.ntmps39
        go_wp2_with fail
        rw [← HW.out]
        refine hv.mono ?_
        clear hv k0 k1
        rintro e w1 ⟨rfl, hb1⟩
        obtain ⟨_, ⟨k2, k3⟩, ⟨r0, r1⟩, f0, f1⟩ := HC.out w1 hb1
        have ge := HE.out w1 hb1
        have ges : (w1.setCell ⟨w.heap.size + 1 + 1, 0, none⟩ (.int .i64 0)).cell? ⟨1, 0, none⟩ = some (.iface 183 (.pointer (some (a 2)))) := by rw [World.cell?_setCell_other _ _ _ _ (fun e => by have h9 := congrArg Addr.block e; have h8 := HGS.out; dsimp only at h9; omega)]; exact ge
        have HB1 := Hid.mk' (below_chain HB0.out hb1)
        clear hb1
        go_wp2_with fail
        go_region
        all_goals
          go_wp2_with fail
          refine bodyPost_ret (v := .tuple #[.agg #[.int .i64 0, .slice none 0 0], .iface 183 (.pointer (some (a 2)))]) (by simp [results, Tryz.results39, go_sem, r0, r1]) rfl ⟨rfl, (HB1.out.drew.setCell (by simp; omega) _).setCell (by simp; omega) _⟩
      · have g4 : 1073741824 < fn := by omega
        go_enter Tryz.func39, Tryz.ntmps39
        go_wp2_with fail
        rw [← HW.out]
        refine hv.mono ?_
        clear hv k0 k1
        rintro e w1 ⟨rfl, hb1⟩
        obtain ⟨_, ⟨k2, k3⟩, ⟨r0, r1⟩, f0, f1⟩ := HC.out w1 hb1
        have ge := HE.out w1 hb1
        have ges : (w1.setCell ⟨w.heap.size + 1 + 1, 0, none⟩ (.int .i64 0)).cell? ⟨1, 0, none⟩ = some (.iface 183 (.pointer (some (a 2)))) := by rw [World.cell?_setCell_other _ _ _ _ (fun e => by have h9 := congrArg Addr.block e; have h8 := HGS.out; dsimp only at h9; omega)]; exact ge
        have HB1 := Hid.mk' (below_chain HB0.out hb1)
        clear hb1
        go_wp2_with fail
        go_region
        all_goals
          go_wp2_with fail
          refine bodyPost_ret (v := .tuple #[.agg #[.int .i64 0, .slice none 0 0], .iface 183 (.pointer (some (a 2)))]) (by simp [results, Tryz.results39, go_sem, r0, r1]) rfl ⟨rfl, (HB1.out.drew.setCell (by simp; omega) _).setCell (by simp; omega) _⟩

set_option maxRecDepth 100000 in
set_option maxHeartbeats 4000000 in
/-- Scale's answer. -/
theorem Scale_said (da fd : Nat) (fn : Int) (ad : Option Addr) (cap : Nat) (t : List (Int × Int)) (a : Nat → Addr) (w : World) (h : Errs w a) (hl : LogAt w (.slice ad t.length cap) t.length (pOf t) (cOf t)) (hok : OkLog da t.length (pOf t) (cOf t)) (hn : t.length ≤ 100) (h1 : -1073741824 ≤ fn) (h2 : fn ≤ 1073741824) (hd0 : 1 ≤ fd) (hd1 : fd ≤ 1073741824) (g : Nat) (hg : g = Nat.gcd fn.natAbs fd) :
    Calls Tryz.prog 39 #[.agg #[.int .i64 da, .slice ad t.length cap], .agg #[.int .i64 fn, .int .i64 fd]] w fun e w' => ∃ (dn : Int) (ad : Option Addr) (len cap : Nat) (er : Value), e = .returned (.tuple #[.agg #[.int .i64 dn, .slice ad len cap], er]) ∧ SaidOf (da * (fd / g)) (scaleL (fn.tdiv (g : Int)) t) a w' dn (.slice ad len cap) er ∧ Below w.heap.size w w' := by
  obtain ⟨hg1, hg2, hg3, hg4, hg5, hg6⟩ := low_parts (n := fn) hd0
  rw [← hg] at hg1 hg2 hg3 hg4 hg5 hg6
  have hda : 0 < da := (OkLog.canon (d := da) hok).pos
  have hM0 : 0 < da * (fd / g) := Nat.mul_pos hda hg6
  have hz : fn = 0 ∨ t.length = 0 → SaidOf (da * (fd / g)) (scaleL (fn.tdiv (g : Int)) t) a w 1 (.slice none 0 0) .nilIface := fun hz => said_zero hM0 (fun e he => by
    obtain ⟨f, hf, rfl⟩ := List.mem_map.1 he
    rcases hz with hz | hz
    · show fn.tdiv (g : Int) * f.2 = 0
      rw [hz]; simp
    · rw [List.length_eq_zero_iff.1 hz] at hf
      cases hf) a w
  obtain ⟨W0, hW⟩ : ∃ W0, W0 = (((w.alloc (.cells #[.int .i64 da, .slice ad t.length cap] 27)).alloc (.cells #[.int .i64 fn, .int .i64 fd] 38)).alloc (.cells #[.int .i64 0, .slice none 0 0] 27)) := ⟨_, rfl⟩
  have hb0 : Below w.heap.size w W0 := by rw [hW]; exact more_below (more_below (new_below _ _) _) _
  have HC : Hid (∀ W, Below W0.heap.size W0 W → _) := fun W hb => scale_boxes (by rw [hW] at hb; exact hb)
  have hv := Valid_log da _ t.length (pOf t) (cOf t) a true ⟨fun _ => hok, fun _ => rfl⟩ W0 (h.below hb0) (hl.later hb0) (by omega)
  simp only [shapeErr] at hv
  have hlo : ∀ W, Calls Tryz.prog 25 #[.int .i64 fn, .int .i64 fd] W fun e w' => e = .returned (.agg #[.int .i64 (fn.tdiv (g : Int)), .int .i64 ((fd / g : Nat) : Int)]) ∧ Below W.heap.size W w' := fun W => lowest_any fn fd W h1 h2 hd0 hd1 g hg
  have hsc : ∀ W, Below W0.heap.size W0 W → 0 < t.length → fn ≠ 0 → Calls Tryz.prog 70 #[.agg #[.int .i64 da, .slice ad t.length cap], .agg #[.int .i64 (fn.tdiv (g : Int)), .int .i64 ((fd / g : Nat) : Int)]] W fun e w' => ∃ (dn : Int) (ad : Option Addr) (len cap : Nat) (er : Value), e = .returned (.tuple #[.agg #[.int .i64 dn, .slice ad len cap], er]) ∧ SaidOf (da * (fd / g)) (scaleL (fn.tdiv (g : Int)) t) a w' dn (.slice ad len cap) er ∧ Below W.heap.size W w' := fun W hb hp hf => by
    have hq : (fn.tdiv (g : Int)).natAbs ≤ fn.natAbs := by rw [hg5]; exact Nat.div_le_self _ _
    refine scaled_said da (fd / g) (fn.tdiv (g : Int)) ad cap t a W ((h.below hb0).below hb) ((hl.later hb0).later hb) hok hp hn (by omega) (by omega) (fun e => hf (by rw [hg2, e, Int.mul_zero])) hg6 (Nat.le_trans (Nat.div_le_self _ _) hd1) hg4
  generalize fn.tdiv (g : Int) = n at *
  generalize hq : fd / g = q at *
  have HZ := Hid.mk' hz
  have HLO := Hid.mk' hlo
  have HSC := Hid.mk' hsc
  obtain ⟨⟨k0, k1⟩, _⟩ := HC.out W0 (Below.refl _ _)
  have HSZ : Hid (W0.heap.size = w.heap.size + 1 + 1 + 1) := by show _ = _; rw [hW]; simp
  have HW := Hid.mk' hW
  have HB0 := Hid.mk' hb0
  have hlm : t.length ≤ 100 := hn
  generalize t.length = nn at *
  clear h hl hb0 hW hok hg hg1 hg2 hg3 hg4 hg5 hg6 hz hlo hsc hq hda hM0
  go_enter Tryz.func39, Tryz.ntmps39
  go_wp2_with fail
  rw [← HW.out]
  refine hv.mono ?_
  clear hv k0 k1
  rintro e w1 ⟨rfl, hb1⟩
  obtain ⟨⟨k0, k1⟩, ⟨k2, k3⟩, ⟨r0, r1⟩, f0, f1⟩ := HC.out w1 hb1
  have HB1 := Hid.mk' hb1
  have hg1' : ¬ (fd : Int) < 1 := by omega
  have hg2' : (fd : Int) ≤ 1073741824 := by omega
  clear hb1
  by_cases hf0 : fn = 0
  · subst hf0
    have hs := HZ.out (Or.inl rfl)
    rcases hs with ⟨s1, s2, s3, s4⟩ | ⟨_, _, _, s4⟩
    case inr => cases s4
    have HS := Hid.mk' (And.intro s1 (And.intro s2 s4))
    clear s1 s2 s3 s4
    go_wp2_with fail
    refine bodyPost_ret (v := .tuple #[.agg #[.int .i64 1, .slice none 0 0], .nilIface]) (by simp [results, Tryz.results39, go_sem, r0, r1]) rfl ⟨1, none, 0, 0, .nilIface, rfl, Or.inl ⟨HS.out.1, HS.out.2.1, rfl, ?_⟩, ((below_chain HB0.out HB1.out).setCell (by simp; omega) _).setCell (by simp; omega) _⟩
    rcases HS.out.2.2 with ⟨_, h0⟩ | ⟨_, _, e9, _⟩
    · exact Or.inl ⟨rfl, h0⟩
    · cases e9
  · have hfb : (fn == 0) = false := by rw [beq_eq_false_iff_ne]; exact hf0
    rcases Nat.eq_zero_or_pos nn with h0 | hpos
    · subst h0
      have hs := HZ.out (Or.inr rfl)
      rcases hs with ⟨s1, s2, s3, s4⟩ | ⟨_, _, _, s4⟩
      case inr => cases s4
      have HS := Hid.mk' (And.intro s1 (And.intro s2 s4))
      clear s1 s2 s3 s4 hf0
      go_wp2_with fail
      refine bodyPost_ret (v := .tuple #[.agg #[.int .i64 1, .slice none 0 0], .nilIface]) (by simp [results, Tryz.results39, go_sem, r0, r1]) rfl ⟨1, none, 0, 0, .nilIface, rfl, Or.inl ⟨HS.out.1, HS.out.2.1, rfl, ?_⟩, ((below_chain HB0.out HB1.out).setCell (by simp; omega) _).setCell (by simp; omega) _⟩
      rcases HS.out.2.2 with ⟨_, h0⟩ | ⟨_, _, e9, _⟩
      · exact Or.inl ⟨rfl, h0⟩
      · cases e9
    · have hnz : ((nn : Int) == 0) = false := by rw [beq_eq_false_iff_ne]; omega
      have HF0 := Hid.mk' hf0
      have HKS : Hid (∀ W, Below (w.heap.size + 1 + 1) W0 W → (W.cell? ⟨w.heap.size, 0, none⟩ = some (.int .i64 da) ∧ W.cell? ⟨w.heap.size, 1, none⟩ = some (.slice ad nn cap)) ∧ (W.cell? ⟨w.heap.size + 1, 0, none⟩ = some (.int .i64 fn) ∧ W.cell? ⟨w.heap.size + 1, 1, none⟩ = some (.int .i64 fd))) := fun W hb => by
        obtain ⟨⟨a0, a1⟩, ⟨a2, a3⟩, _⟩ := HC.out W0 (Below.refl _ _)
        refine ⟨⟨?_, ?_⟩, ?_, ?_⟩
        · rw [hb.cell (p := ⟨w.heap.size, 0, none⟩) (by show w.heap.size < _; omega)]; exact a0
        · rw [hb.cell (p := ⟨w.heap.size, 1, none⟩) (by show w.heap.size < _; omega)]; exact a1
        · rw [hb.cell (p := ⟨w.heap.size + 1, 0, none⟩) (by show w.heap.size + 1 < _; omega)]; exact a2
        · rw [hb.cell (p := ⟨w.heap.size + 1, 1, none⟩) (by show w.heap.size + 1 < _; omega)]; exact a3
      have hle : w.heap.size + 1 + 1 ≤ W0.heap.size := by rw [HSZ.out]; omega
      have hc0 : Below (w.heap.size + 1 + 1) W0 w1 := HB1.out.mono hle
      have hcd : Below (w.heap.size + 1 + 1) W0 w1.drew := hc0.drew
      have HLE := Hid.mk' hle
      clear hf0 hle
      go_wp2_with fail
      clear k0 k1 k2 k3 r0 r1 f0 f1
      go_region_held3 (fun W => (W.cell? ⟨w.heap.size, 0, none⟩ = some (.int .i64 da) ∧ W.cell? ⟨w.heap.size, 1, none⟩ = some (.slice ad nn cap)) ∧ (W.cell? ⟨w.heap.size + 1, 0, none⟩ = some (.int .i64 fn) ∧ W.cell? ⟨w.heap.size + 1, 1, none⟩ = some (.int .i64 fd)))
        (first | exact HKS.out _ hc0 | exact HKS.out _ hcd | exact HKS.out _ hc2 | exact HKS.out _ hc3 | exact HKS.out _ ((hc3.setCell (Nat.le_refl _) _).setCell (Nat.le_refl _) _))
        (first
          | (go_at_call 70; have hz2 := hc2; clear hz2; refine (HSC.out w2 HBW2.out hpos HF0.out).mono ?_; rintro e w3 ⟨dn, ad3, m3, cap3, er, rfl, hs3, hb3⟩; have hbw3 := below_chain HBW2.out hb3; have hc3 : Below (w.heap.size + 1 + 1) W0 w3 := hbw3.mono HLE.out; obtain ⟨_, _, ⟨x0, x1⟩, g0, g1⟩ := HC.out w3 hbw3; have HV := Hid.mk' hs3; have HBW3 := Hid.mk' hbw3; clear hs3 hb3 hbw3)
          | (go_at_call 25; refine (HLO.out _).mono ?_; rintro e w2 ⟨rfl, hb2⟩; have hbw2 := below_chain HB1.out.drew hb2; have hc2 : Below (w.heap.size + 1 + 1) W0 w2 := hbw2.mono HLE.out; have HBW2 := Hid.mk' hbw2; clear hb2 hbw2))
      go_wp2_with fail
      refine bodyPost_ret (v := .tuple #[.agg #[.int .i64 dn, .slice ad3 m3 cap3], er]) (by simp [results, Tryz.results39, go_sem, x0, x1]) rfl ⟨dn, ad3, m3, cap3, er, rfl, HV.out.set x1, ((below_chain HB0.out HBW3.out).setCell (by simp; omega) _).setCell (by simp; omega) _⟩
end Go.Proofs.YtklhfagcembigaaGreatDoor

/- A logarithm by its value: F over M, whatever its denominator; Add, Scale of such. -/
namespace Go.Proofs.YtklhfagcembigaaGreatDoor
open Go.RowKit

/-- In form, and F over M. -/
def LV (W : World) (M : Nat) (F : Int → Int) (L : Nat) (dn : Int) (v : Value) : Prop := ∃ (d : Nat) (t : List (Int × Int)), dn = (d : Int) ∧ ListAt W v t ∧ t.length ≤ L ∧ OkLog d t.length (pOf t) (cOf t) ∧ ∀ x, (M : Int) * atL t x = (d : Int) * F x
theorem LV.later {W W' : World} {M : Nat} {F : Int → Int} {L : Nat} {dn : Int} {v : Value} (h : LV W M F L dn v) (hb : Below W.heap.size W W') : LV W' M F L dn v := by
  obtain ⟨d, t, h1, h2, h3⟩ := h
  exact ⟨d, t, h1, h2.later hb, h3⟩
theorem LV.form {W : World} {M : Nat} {F : Int → Int} {L : Nat} {dn : Int} {v : Value} (h : LV W M F L dn v) : ∃ ad n c, v = .slice ad n c := by
  obtain ⟨d, t, _, h2, _⟩ := h
  exact ownAt_slice h2
/-- The same, over more. -/
theorem LV.wide {W : World} {M : Nat} {F : Int → Int} {L : Nat} {dn : Int} {v : Value} (h : LV W M F L dn v) (k : Nat) : LV W (k * M) (fun x => (k : Int) * F x) L dn v := by
  obtain ⟨d, t, h1, h2, h3, h4, h5⟩ := h
  refine ⟨d, t, h1, h2, h3, h4, fun x => ?_⟩
  have := h5 x
  rw [Int.natCast_mul, Int.mul_assoc, this]
  exact Int.mul_left_comm _ _ _
theorem LV.congr {W : World} {M : Nat} {F G : Int → Int} {L : Nat} {dn : Int} {v : Value} (h : LV W M F L dn v) (e : ∀ x, F x = G x) : LV W M G L dn v := by
  obtain ⟨d, t, h1, h2, h3, h4, h5⟩ := h
  exact ⟨d, t, h1, h2, h3, h4, fun x => by rw [← e x]; exact h5 x⟩
theorem LogBy.lv {base M : Nat} {f : Int → Int} {w : World} {dn : Int} {v : Value} (h : LogBy base M f w dn v) (hM : 1 ≤ M) (hM6 : M ≤ 1000000) (hf : Prim f) : LV w M f 4096 dn v := by
  obtain ⟨t, d, G, h1, h2, h3, h4, _, h6, h7⟩ := h.ok hM hM6 hf
  refine ⟨d, t, h1, h2, h3, h7, fun x => ?_⟩
  rw [h6 x, h4, Int.natCast_mul, Int.mul_comm (G : Int), Int.mul_assoc]
theorem lv_add {M e1 e2 d : Nat} {T A B f1 f2 : Int} (p1 : 0 < e1) (p2 : 0 < e2) (v1 : (M : Int) * A = (e1 : Int) * f1) (v2 : (M : Int) * B = (e2 : Int) * f2) (hs : T * ((e1 : Int) * (e2 : Int)) = (A * (e2 : Int) + B * (e1 : Int)) * (d : Int)) : (M : Int) * T = (d : Int) * (f1 + f2) := by
  have h1 : (0 : Int) < (e1 : Int) * (e2 : Int) := Int.mul_pos (by omega) (by omega)
  refine Int.eq_of_mul_eq_mul_right (a := (e1 : Int) * (e2 : Int)) (by omega) ?_
  rw [Int.mul_assoc, hs]
  have k : (M : Int) * ((A * (e2 : Int) + B * (e1 : Int)) * (d : Int)) = ((M : Int) * A * (e2 : Int) + (M : Int) * B * (e1 : Int)) * (d : Int) := by grind
  rw [k, v1, v2]
  grind
/-- Add, by values. -/
theorem Add_lv {M L1 L2 : Nat} {F1 F2 : Int → Int} {d1 d2 : Int} {v1 v2 : Value} (a : Nat → Addr) (w : World) (hE : Errs w a) (h1 : LV w M F1 L1 d1 v1) (h2 : LV w M F2 L2 d2 v2) (hL : L1 + L2 ≤ 10000) :
    Calls Tryz.prog 40 #[.agg #[.int .i64 d1, v1], .agg #[.int .i64 d2, v2]] w fun e w' => ((∃ dn v, e = .returned (.tuple #[.agg #[.int .i64 dn, v], .nilIface]) ∧ LV w' M (fun x => F1 x + F2 x) (L1 + L2) dn v) ∨ ∃ ad, e = .returned (.tuple #[.agg #[.int .i64 0, .slice none 0 0], .iface 183 (.pointer (some ad))])) ∧ Below w.heap.size w w' := by
  obtain ⟨e1, t1, rfl, l1, n1, o1, w1'⟩ := h1
  obtain ⟨e2, t2, rfl, l2, n2, o2, w2'⟩ := h2
  refine (Add_all e1 e2 v1 v2 t1 t2 a w hE (listAt_log l1) (listAt_log l2) (by omega)).mono ?_
  rintro e w' ⟨⟨d, t, v, hs, rfl, hl⟩ | ⟨_, h⟩, hb⟩
  · refine ⟨Or.inl ⟨_, v, rfl, d, t, rfl, hl, ?_, hs.ok, fun x => ?_⟩, hb⟩
    · have := hs.2.2.1.len; omega
    · have hval := hs.2.2.1.val x
      simp only [Int.toNat_natCast] at hval
      exact lv_add (OkLog.canon (d := e1) o1).pos (OkLog.canon (d := e2) o2).pos (w1' x) (w2' x) hval
  · exact ⟨Or.inr h, hb⟩
theorem lv_scale {M da fd g G K : Nat} {fn n T A F : Int} (hG : 0 < G) (v : (M : Int) * A = (da : Int) * F) (hK : da * (fd / g) = G * K) (hg : fd = g * (fd / g)) (hn : fn = (g : Int) * n) (hT : n * A = (G : Int) * T) : ((M * fd : Nat) : Int) * T = (K : Int) * (fn * F) := by
  refine Int.eq_of_mul_eq_mul_left (a := (G : Int)) (by omega) ?_
  have h1 : (da : Int) * ((fd / g : Nat) : Int) = (G : Int) * (K : Int) := by rw [← Int.natCast_mul, hK, Int.natCast_mul]
  generalize fd / g = d' at *
  subst hg hn
  rw [Int.natCast_mul, Int.natCast_mul]
  have k1 : (G : Int) * ((M : Int) * ((g : Int) * (d' : Int)) * T) = (M : Int) * (g : Int) * (d' : Int) * ((G : Int) * T) := by grind
  have k2 : (M : Int) * (g : Int) * (d' : Int) * (n * A) = (g : Int) * (d' : Int) * n * ((M : Int) * A) := by grind
  have k3 : (G : Int) * ((K : Int) * ((g : Int) * n * F)) = ((G : Int) * (K : Int)) * ((g : Int) * n * F) := by grind
  rw [k1, ← hT, k2, v, k3, ← h1]
  grind
/-- Scale, by values. -/
theorem Scale_lv {M L fd : Nat} {F : Int → Int} {d1 fn : Int} {v1 : Value} (a : Nat → Addr) (w : World) (hE : Errs w a) (h1 : LV w M F L d1 v1) (hL : L ≤ 100) (q1 : -1073741824 ≤ fn) (q2 : fn ≤ 1073741824) (hd0 : 1 ≤ fd) (hd1 : fd ≤ 1073741824) :
    Calls Tryz.prog 39 #[.agg #[.int .i64 d1, v1], .agg #[.int .i64 fn, .int .i64 (fd : Int)]] w fun e w' => ((∃ dn v, e = .returned (.tuple #[.agg #[.int .i64 dn, v], .nilIface]) ∧ LV w' (M * fd) (fun x => fn * F x) L dn v) ∨ ∃ ad, e = .returned (.tuple #[.agg #[.int .i64 0, .slice none 0 0], .iface 183 (.pointer (some ad))])) ∧ Below w.heap.size w w' := by
  obtain ⟨da, t, rfl, l1, n1, o1, w1'⟩ := h1
  have q := listAt_log l1
  obtain ⟨ad, cap, rfl⟩ := q.slice
  obtain ⟨g, hg⟩ : ∃ g, g = Nat.gcd fn.natAbs fd := ⟨_, rfl⟩
  have hcan := OkLog.canon (d := da) o1
  have g0 : 0 < g := by rw [hg]; exact Nat.gcd_pos_of_pos_right _ hd0
  have g1 : g ∣ fd := by rw [hg]; exact Nat.gcd_dvd_right _ _
  have g2 : g ∣ fn.natAbs := by rw [hg]; exact Nat.gcd_dvd_left _ _
  refine (Scale_said da fd fn ad cap t a w hE q o1 (by omega) q1 q2 hd0 hd1 g hg).mono ?_
  rintro e w' ⟨dn', ad', len, cap', er, rfl, hs, hb⟩
  have hD : 0 < da * (fd / g) := Nat.mul_pos hcan.pos (Nat.div_pos (Nat.le_of_dvd hd0 g1) g0)
  obtain ⟨o1', o2', o3', o4'⟩ := over_by hD (scale_rise hcan.rise (fn.tdiv (g : Int)))
  unfold SaidOf at hs
  generalize hGG : gList (da * (fd / g)) ((scaleL (fn.tdiv (g : Int)) t).map Prod.snd) = G at *
  rcases hs with ⟨hf, rfl, rfl, h4⟩ | ⟨_, rfl, h3, rfl⟩
  · refine ⟨Or.inl ⟨_, _, rfl, _, _, rfl, h4, ?_, okLog_list o4'.rise (fun e he => ?_) (by have := o4'.pos; omega) (by have := hf.1; omega) ?_, fun x => ?_⟩, hb⟩
    · have h5 := length_over (scaleL (fn.tdiv (g : Int)) t) G
      have h6 : (scaleL (fn.tdiv (g : Int)) t).length = t.length := by unfold scaleL; rw [List.length_map]
      omega
    · have hnz := o4'.nz e he
      obtain ⟨e0, he0, rfl⟩ := List.mem_map.1 (List.mem_filter.1 he).1
      have hbd := hf.2 e0 he0
      obtain ⟨e9, he9, rfl⟩ := List.mem_map.1 he0
      obtain ⟨k1, _, _, _, k5, k6⟩ := OkLog.mem o1 e9 he9
      dsimp only at hnz hbd ⊢
      exact ⟨k1, hnz, by omega, by omega, k5, k6⟩
    · rw [gcdTo_list _ _ _ (Nat.le_refl _), List.take_length, Int.natAbs_natCast]
      exact o4'.one
    · have h8 := o3' x
      rw [scale_at] at h8
      exact lv_scale o2' (w1' x) (Nat.mul_div_cancel' o1').symm (Nat.mul_div_cancel' g1).symm (Int.mul_tdiv_cancel' (Int.ofNat_dvd_left.2 g2)).symm h8
  · cases h3
    exact ⟨Or.inr ⟨_, rfl⟩, hb⟩
end Go.Proofs.YtklhfagcembigaaGreatDoor

/- dist.Entropy at any weights. -/
namespace Go.Proofs.YtklhfagcembigaaGreatDoor
open Go.RowKit Go.Maps

theorem new_one {w w1 : World} {x : Value} {t : TypeId} (hb : Below (w.alloc (.cells #[x] t)).heap.size (w.alloc (.cells #[x] t)) w1) : w1.cell? ⟨w.heap.size, 0, none⟩ = some x := by
  have c0 : (w.alloc (.cells #[x] t)).cell? ⟨w.heap.size, 0, none⟩ = some x := by rw [World.cell?_alloc_at _ _ _ _ rfl]; rfl
  exact (cell_past c0 hb).2

set_option maxRecDepth 100000 in
theorem Entropy_parts (den : Int) (mb B b o cap n : Nat) (z : Nat → Int) (w : World) (hown : w.ownsMap Tryz.prog 3 (plainElem (H := Unit) Tryz.prog 3) mb 0 (mapOf [])) (hB : w.cell? ⟨B, 0, none⟩ = some (.slice (some ⟨b, o, none⟩) n cap)) (h : RowAt w b o n z) (hz : ∀ i, i < n → 0 ≤ z i) (hs : sumN z n ≤ 4096) (hn : n ≤ 256) :
    Calls Tryz.prog 37 #[putV den mb, .pointer (some ⟨B, 0, none⟩)] w fun e w' => e = .returned (.tuple #[]) ∧ ∃ l nn, Puts w w' mb (fun x => sumN (entV z (sumN z n).toNat x) n) (2 * n) [] 0 l nn := by
  have hp := putEntropy_some den mb 0 b o cap n z [] w hown List.Pairwise.nil (fun e he => by cases he) (fun x => by simp [atL]) (by omega) h hz hs hn
  clear hown h hz hs
  unfold putV at hp ⊢
  go_enter Tryz.func37, Tryz.ntmps37
  go_wp2_with fail
  refine hp.mono ?_
  clear hp
  rintro e w1 ⟨rfl, l, nn, hpt⟩
  have HP := Hid.mk' hpt
  clear hpt
  go_wp2_with fail
  go_end0
  exact ⟨rfl, l, nn, HP.out⟩

theorem ent_bound {z : Nat → Int} {n N : Nat} (hz : ∀ i, i < n → 0 ≤ z i ∧ z i ≤ 4096) (hN : N ≤ 4096) (hn : n ≤ 256) (x : Int) : -1000000000 ≤ sumN (entV z N x) n ∧ sumN (entV z N x) n ≤ 1000000000 := by
  have h3 := sumN_bound (f := entV z N x) (B := 200000) (n := n) (fun i hi => entV_le x (hz i hi) hN)
  have : (n : Int) * 200000 ≤ 51200000 := by omega
  omega

set_option maxRecDepth 100000 in
set_option maxHeartbeats 1000000 in
theorem Entropy_ok (a : Nat → Addr) (b o cap n N : Nat) (z : Nat → Int) (w : World) (hE : Errs w a) (h : RowAt w b o n z) (h0 : weightsErr z n = 0) (hN : sumN z n = N) (hz : ∀ i, i < n → 0 ≤ z i) (hn : n ≤ 16) (hN1 : 1 ≤ N) (hN6 : N ≤ 4096) (h0n : 0 < n) :
    Calls Tryz.prog 17 #[.slice (some ⟨b, o, none⟩) n cap] w fun e w' => ∃ dn v, e = .returned (.tuple #[.agg #[.int .i64 dn, v], .nilIface]) ∧ LogBy w.heap.size N (fun x => sumN (entV z N x) n) w' dn v ∧ Below w.heap.size w w' := by
  have hzi : ∀ i, i < n → 0 ≤ z i ∧ z i ≤ 4096 := fun i hi => ⟨hz i hi, by have := sumN_ge hz hi; omega⟩
  have hle : ∀ k, k ≤ n → 0 ≤ sumN z k ∧ sumN z k ≤ 4096 := fun k hk => ⟨sumN_nonneg (fun i hi => hz i (by omega)), by have := sumN_mono hz hk; omega⟩
  obtain ⟨W0, hW0⟩ : ∃ W0, W0 = (w.alloc (.cells #[.slice (some ⟨b, o, none⟩) n cap] 22)).alloc (.cells #[.int .i64 0, .slice none 0 0] 27) := ⟨_, rfl⟩
  have hb0 : Below w.heap.size w W0 := by rw [hW0]; exact below_chain (new_below _ _) (new_below _ _)
  have hbox : W0.cell? ⟨w.heap.size, 0, none⟩ = some (.slice (some ⟨b, o, none⟩) n cap) := by rw [hW0]; exact new_one (new_below _ _)
  have hres : ∀ W, Below W0.heap.size W0 W → W.cell? ⟨w.heap.size + 1, 0, none⟩ = some (.int .i64 0) ∧ W.cell? ⟨w.heap.size + 1, 1, none⟩ = some (.slice none 0 0) ∧ W.frozen? ⟨w.heap.size + 1, 0, none⟩ = false ∧ W.frozen? ⟨w.heap.size + 1, 1, none⟩ = false := fun W hb => by
    rw [hW0] at hb
    have := res_past hb
    simpa using this
  have hv := Valid_weights a (.slice (some ⟨b, o, none⟩) n cap) n z W0 (hE.below hb0) (Or.inr ⟨b, o, cap, rfl, h0n, h.later hb0⟩) (by omega)
  rw [h0] at hv
  have ht := total_some b o cap n z W0 (h.later hb0) (fun k hk => by have := hle k hk; omega) (fun i hi => by have := hzi i hi; omega) (by omega)
  rw [hN] at ht
  have hso := sumOver_any 37 #[.pointer (some ⟨w.heap.size, 0, none⟩)] N (2 * n) (fun x => sumN (entV z N x) n) W0 (enters_of Tryz.func37 (by kernel_rfl) rfl) hN1 hN6 (by omega) (fun x => ent_bound hzi hN6 (by omega) x)
    (fun W mb hb ho => by
      have := Entropy_parts N mb w.heap.size b o cap n z W ho (cell_past hbox hb).2 ((h.later hb0).later hb) hz (by omega) (by omega)
      rw [hN, Int.toNat_natCast] at this
      exact this)
  have HB0 := Hid.mk' hb0
  have HRES := Hid.mk' hres
  have HW0 := Hid.mk' hW0
  have hlt : w.heap.size + 1 < W0.heap.size := by rw [hW0]; simp
  have HLT := Hid.mk' hlt
  clear hE h hb0 hres hW0 hzi hle hz hN h0 hlt
  go_enter Tryz.func17, Tryz.ntmps17
  go_upto_region 1 with fail
  rw [← HW0.out]
  go_wp2_with fail
  refine hv.mono ?_
  clear hv
  rintro e w1 ⟨rfl, hw1⟩
  rw [hw1]
  clear hw1
  rw [errV_zero]
  go_wp2_with (first
    | (go_at_call 27; refine ht.mono ?_; rintro e w2 ⟨rfl, hw2⟩; rw [hw2]; clear hw2)
    | (go_at_call 36; refine hso.mono ?_; rintro e w3 ⟨dn, v, rfl, hlb, hb3⟩; obtain ⟨c0, c1, q0, q1⟩ := HRES.out w3 hb3; have HBW := Hid.mk' (below_chain HB0.out hb3); have HLB := Hid.mk' hlb; obtain ⟨ad, n', c', rfl⟩ := hlb.form; clear hlb))
  refine bodyPost_ret (v := .tuple #[.agg #[.int .i64 dn, .slice ad n' c'], .nilIface]) (by simp [results, Tryz.results17, go_sem, c0, c1]) rfl ⟨_, .slice ad n' c', rfl, (HLB.out.set HLT.out _ _).lower (by have := HLT.out; omega), ?_⟩
  exact (HBW.out.setCell (by simp) _).setCell (by simp) _

set_option maxRecDepth 100000 in
set_option maxHeartbeats 1000000 in
theorem Entropy_bad (a : Nat → Addr) (v : Value) (n : Nat) (z : Nat → Int) (w : World) (hE : Errs w a) (h : NumsAt w v n z) (hn : n ≤ 400) (h0 : weightsErr z n ≠ 0) :
    Calls Tryz.prog 17 #[v] w fun e w' => e = .returned (.tuple #[.agg #[.int .i64 0, .slice none 0 0], errV a (weightsErr z n)]) ∧ Below w.heap.size w w' := by
  obtain ⟨ad, cap, rfl⟩ := h.form
  obtain ⟨W0, hW0⟩ : ∃ W0, W0 = (w.alloc (.cells #[.slice ad n cap] 22)).alloc (.cells #[.int .i64 0, .slice none 0 0] 27) := ⟨_, rfl⟩
  have hb0 : Below w.heap.size w W0 := by rw [hW0]; exact below_chain (new_below _ _) (new_below _ _)
  have hbox : W0.cell? ⟨w.heap.size, 0, none⟩ = some (.slice ad n cap) := by rw [hW0]; exact new_one (new_below _ _)
  have hres : W0.cell? ⟨w.heap.size + 1, 0, none⟩ = some (.int .i64 0) ∧ W0.cell? ⟨w.heap.size + 1, 1, none⟩ = some (.slice none 0 0) ∧ W0.frozen? ⟨w.heap.size + 1, 0, none⟩ = false ∧ W0.frozen? ⟨w.heap.size + 1, 1, none⟩ = false := by
    rw [hW0]
    simp
  have hv := Valid_weights a (.slice ad n cap) n z W0 (hE.below hb0) (h.later hb0) (by omega)
  rw [errV_pos a h0] at hv ⊢
  generalize a (weightsErr z n - 1) = ea at hv ⊢
  obtain ⟨c0, c1, q0, q1⟩ := hres
  have HB0 := Hid.mk' hb0
  have HW0 := Hid.mk' hW0
  clear hE h hb0 hW0 h0
  go_enter Tryz.func17, Tryz.ntmps17
  go_upto_region 1 with fail
  rw [← HW0.out]
  go_wp2_with (go_at_call 24; refine hv.mono ?_; rintro e w1 ⟨rfl, hw1⟩; rw [hw1]; clear hw1)
  refine bodyPost_ret (v := .tuple #[.agg #[.int .i64 0, .slice none 0 0], .iface 183 (.pointer (some ea))]) (by simp [results, Tryz.results17, go_sem, c0, c1]) rfl ⟨rfl, ?_⟩
  exact (HB0.out.setCell (by simp) _).setCell (by simp) _
end Go.Proofs.YtklhfagcembigaaGreatDoor

/- GIBBS' inequality of tables. -/
namespace Go.Proofs.YtklhfagcembigaaGreatDoor

theorem prod_le {f g : Nat → Nat} : ∀ {n : Nat}, (∀ i, i < n → f i ≤ g i) → prodA f n ≤ prodA g n
  | 0, _ => Nat.le_refl _
  | n + 1, h => Nat.mul_le_mul (prod_le fun i hi => h i (by omega)) (h n (by omega))
theorem prod_mul (f g : Nat → Nat) : ∀ n, prodA (fun i => f i * g i) n = prodA f n * prodA g n
  | 0 => rfl
  | n + 1 => by
    simp only [prodA]
    rw [prod_mul f g n]
    grind
theorem prod_congr {f g : Nat → Nat} : ∀ {n : Nat}, (∀ i, i < n → f i = g i) → prodA f n = prodA g n
  | 0, _ => rfl
  | n + 1, h => by
    simp only [prodA]
    rw [prod_congr (n := n) (fun i hi => h i (by omega)), h n (by omega)]
theorem sumA_congr {f g : Nat → Nat} : ∀ {n : Nat}, (∀ i, i < n → f i = g i) → sumA f n = sumA g n
  | 0, _ => rfl
  | n + 1, h => by
    simp only [sumA]
    rw [sumA_congr (n := n) (fun i hi => h i (by omega)), h n (by omega)]
theorem sumA_ge (f : Nat → Nat) : ∀ {n i : Nat}, i < n → f i ≤ sumA f n
  | 0, _, h => by omega
  | n + 1, i, h => by
    simp only [sumA]
    rcases Nat.lt_or_ge i n with h1 | h1
    · have := sumA_ge f h1
      omega
    · obtain rfl : i = n := by omega
      omega
theorem sumA_mul (k : Nat) (f : Nat → Nat) : ∀ n, sumA (fun i => k * f i) n = k * sumA f n
  | 0 => rfl
  | n + 1 => by
    simp only [sumA]
    rw [sumA_mul k f n]
    grind
theorem sumA_add (f g : Nat → Nat) : ∀ n, sumA (fun i => f i + g i) n = sumA f n + sumA g n
  | 0 => rfl
  | n + 1 => by
    simp only [sumA]
    rw [sumA_add f g n]
    omega
theorem sumA_swap (F : Nat → Nat → Nat) (C : Nat) : ∀ R, sumA (fun i => sumA (fun j => F i j) C) R = sumA (fun j => sumA (fun i => F i j) R) C
  | 0 => by
    simp only [sumA]
    have : ∀ n, sumA (fun _ => 0) n = 0 := by
      intro n
      induction n with
      | zero => rfl
      | succ n ih => simp only [sumA]; omega
    rw [this]
  | R + 1 => by
    simp only [sumA]
    rw [sumA_swap F C R, ← sumA_add]
/-- The sum of logarithms, of tables. -/
theorem sums2_le (a b : Nat → Nat → Nat) (C R : Nat) :
    sumA (fun i => sumA (a i) C) R ^ sumA (fun i => sumA (a i) C) R * prodA (fun i => prodA (fun j => b i j ^ a i j) C) R ≤ sumA (fun i => sumA (b i) C) R ^ sumA (fun i => sumA (a i) C) R * prodA (fun i => prodA (fun j => a i j ^ a i j) C) R := by
  have h1 := prod_le (n := R) (fun i _ => sums_le (a i) (b i) C)
  rw [prod_mul, prod_mul] at h1
  have h2 := sums_le (fun i => sumA (a i) C) (fun i => sumA (b i) C) R
  have hX : 0 < prodA (fun i => sumA (a i) C ^ sumA (a i) C) R := prod_pos fun i _ => self_pos _
  refine Nat.le_of_mul_le_mul_right (c := prodA (fun i => sumA (a i) C ^ sumA (a i) C) R) ?_ hX
  have h3 := Nat.mul_le_mul_left (sumA (fun i => sumA (a i) C) R ^ sumA (fun i => sumA (a i) C) R) h1
  have h4 := Nat.mul_le_mul_right (prodA (fun i => prodA (fun j => a i j ^ a i j) C) R) h2
  generalize sumA (fun i => sumA (a i) C) R ^ sumA (fun i => sumA (a i) C) R = A at *
  generalize sumA (fun i => sumA (b i) C) R ^ sumA (fun i => sumA (a i) C) R = B at *
  generalize prodA (fun i => sumA (a i) C ^ sumA (a i) C) R = X at *
  generalize prodA (fun i => sumA (b i) C ^ sumA (a i) C) R = Y at *
  generalize prodA (fun i => prodA (fun j => b i j ^ a i j) C) R = L at *
  generalize prodA (fun i => prodA (fun j => a i j ^ a i j) C) R = Q at *
  grind
/-- What rows and columns tell of each other is not below 0. -/
theorem told_le (a : Nat → Nat → Nat) (C R N : Nat) (hN : N = sumA (fun i => sumA (a i) C) R) (hN0 : 0 < N) :
    prodA (fun i => prodA (fun j => (sumA (a i) C * sumA (fun k => a k j) R) ^ a i j) C) R ≤ N ^ N * prodA (fun i => prodA (fun j => a i j ^ a i j) C) R := by
  have h := sums2_le a (fun i j => sumA (a i) C * sumA (fun k => a k j) R) C R
  have e1 : sumA (fun j => sumA (fun k => a k j) R) C = N := by rw [hN, sumA_swap]
  have e2 : sumA (fun i => sumA (fun j => sumA (a i) C * sumA (fun k => a k j) R) C) R = N * N := by
    have : sumA (fun i => sumA (fun j => sumA (a i) C * sumA (fun k => a k j) R) C) R = sumA (fun i => N * sumA (a i) C) R := sumA_congr fun i _ => by rw [sumA_mul, e1, Nat.mul_comm]
    rw [this, sumA_mul, ← hN]
  rw [e2, ← hN, Nat.mul_pow] at h
  refine Nat.le_of_mul_le_mul_left (c := N ^ N) ?_ (Nat.pow_pos hN0)
  generalize prodA (fun i => prodA (fun j => (sumA (a i) C * sumA (fun k => a k j) R) ^ a i j) C) R = L at *
  generalize prodA (fun i => prodA (fun j => a i j ^ a i j) C) R = Q at *
  generalize N ^ N = Z at *
  grind
end Go.Proofs.YtklhfagcembigaaGreatDoor

/- Fractions that are one together: the least whole numbers that have their ratios. -/
namespace Go.Proofs.YtklhfagcembigaaGreatDoor

def lcmP (l : List (Nat × Nat)) : Nat := l.foldl (fun a p => Nat.lcm a p.2) 1
def wholeP (L : Nat) (p : Nat × Nat) : Nat := p.1 * (L / p.2)
def gcdP (L : Nat) (l : List (Nat × Nat)) : Nat := l.foldl (fun g p => Nat.gcd g (wholeP L p)) 0
def LowP (p : Nat × Nat) : Prop := 0 < p.2 ∧ Nat.gcd p.1 p.2 = 1

theorem lcmP_snoc (l : List (Nat × Nat)) (p : Nat × Nat) : lcmP (l ++ [p]) = Nat.lcm (lcmP l) p.2 := by simp [lcmP]
theorem gcdP_snoc (L : Nat) (l : List (Nat × Nat)) (p : Nat × Nat) : gcdP L (l ++ [p]) = Nat.gcd (gcdP L l) (wholeP L p) := by simp [gcdP]
theorem take_snocP {l : List (Nat × Nat)} {k : Nat} {p : Nat × Nat} (h : l[k]? = some p) : l.take (k + 1) = l.take k ++ [p] := by
  rw [List.take_add_one, h]; rfl
theorem lcmP_take {l : List (Nat × Nat)} {k : Nat} {p : Nat × Nat} (h : l[k]? = some p) : lcmP (l.take (k + 1)) = Nat.lcm (lcmP (l.take k)) p.2 := by
  rw [take_snocP h, lcmP_snoc]
theorem gcdP_take {L : Nat} {l : List (Nat × Nat)} {k : Nat} {p : Nat × Nat} (h : l[k]? = some p) : gcdP L (l.take (k + 1)) = Nat.gcd (gcdP L (l.take k)) (wholeP L p) := by
  rw [take_snocP h, gcdP_snoc]
theorem snoc_ind {P : List (Nat × Nat) → Prop} (h0 : P []) (h1 : ∀ l p, P l → P (l ++ [p])) (l : List (Nat × Nat)) : P l := by
  have h : ∀ n, ∀ l : List (Nat × Nat), l.length = n → P l := by
    intro n
    induction n with
    | zero => intro l hl; rw [List.length_eq_zero_iff.mp hl]; exact h0
    | succ n ih =>
      intro l hl
      have hne : l ≠ [] := fun e => by rw [e] at hl; simp at hl
      rw [← List.dropLast_concat_getLast hne]
      exact h1 _ _ (ih _ (by simp; omega))
  exact h _ l rfl
theorem lcmP_pos (l : List (Nat × Nat)) : (∀ p, p ∈ l → 0 < p.2) → 0 < lcmP l := by
  refine snoc_ind (P := fun l => (∀ p, p ∈ l → 0 < p.2) → 0 < lcmP l) ?_ ?_ l
  · intro _; simp [lcmP]
  · intro l p ih h
    rw [lcmP_snoc]
    exact Nat.lcm_pos (ih fun q hq => h q (by simp [hq])) (h p (by simp))
theorem lcmP_dvd (l : List (Nat × Nat)) : ∀ p, p ∈ l → p.2 ∣ lcmP l := by
  refine snoc_ind (P := fun l => ∀ p, p ∈ l → p.2 ∣ lcmP l) ?_ ?_ l
  · intro p hp; simp at hp
  · intro l q ih p hp
    rw [lcmP_snoc]
    rcases List.mem_append.mp hp with h | h
    · exact Nat.dvd_trans (ih p h) (Nat.dvd_lcm_left _ _)
    · rw [List.mem_singleton.mp h]; exact Nat.dvd_lcm_right _ _
theorem lcmP_least (M : Nat) (l : List (Nat × Nat)) : (∀ p, p ∈ l → p.2 ∣ M) → lcmP l ∣ M := by
  refine snoc_ind (P := fun l => (∀ p, p ∈ l → p.2 ∣ M) → lcmP l ∣ M) ?_ ?_ l
  · intro _; simp [lcmP]
  · intro l q ih h
    rw [lcmP_snoc]
    exact Nat.lcm_dvd (ih fun p hp => h p (by simp [hp])) (h q (by simp))
theorem gcdP_dvd (L : Nat) (l : List (Nat × Nat)) : ∀ p, p ∈ l → gcdP L l ∣ wholeP L p := by
  refine snoc_ind (P := fun l => ∀ p, p ∈ l → gcdP L l ∣ wholeP L p) ?_ ?_ l
  · intro p hp; simp at hp
  · intro l q ih p hp
    rw [gcdP_snoc]
    rcases List.mem_append.mp hp with h | h
    · exact Nat.dvd_trans (Nat.gcd_dvd_left _ _) (ih p h)
    · rw [List.mem_singleton.mp h]; exact Nat.gcd_dvd_right _ _
def sumP (L : Nat) (l : List (Nat × Nat)) : Nat := (l.map (wholeP L)).sum
theorem dvd_sumP {g L : Nat} (l : List (Nat × Nat)) (h : ∀ p, p ∈ l → g ∣ wholeP L p) : g ∣ sumP L l := by
  induction l with
  | nil => simp [sumP]
  | cons p l ih =>
    have : sumP L (p :: l) = wholeP L p + sumP L l := by simp [sumP]
    rw [this]
    exact Nat.dvd_add (h p (by simp)) (ih fun q hq => h q (by simp [hq]))
theorem gcdP_one (l : List (Nat × Nat)) (hl : ∀ p, p ∈ l → LowP p) (hs : sumP (lcmP l) l = lcmP l) : gcdP (lcmP l) l = 1 := by
  have hL := lcmP_pos l fun p hp => (hl p hp).1
  have hg := gcdP_dvd (lcmP l) l
  have hgs := dvd_sumP l hg
  rw [hs] at hgs
  obtain ⟨M, hM⟩ := hgs
  have hdM : lcmP l ∣ M := by
    refine lcmP_least M l fun p hp => ?_
    obtain ⟨e, he⟩ := lcmP_dvd l p hp
    obtain ⟨t, ht⟩ := hg p hp
    have hp2 := (hl p hp).1
    have hw : wholeP (lcmP l) p = p.1 * e := by unfold wholeP; rw [he, Nat.mul_div_cancel_left _ hp2]
    rw [hw] at ht
    have hgp : 0 < gcdP (lcmP l) l := by
      rcases Nat.eq_zero_or_pos (gcdP (lcmP l) l) with h | h
      · rw [h, Nat.zero_mul] at hM; omega
      · exact h
    have h3 : gcdP (lcmP l) l * (p.1 * M) = gcdP (lcmP l) l * (p.2 * t) := by
      calc gcdP (lcmP l) l * (p.1 * M) = p.1 * (gcdP (lcmP l) l * M) := by rw [Nat.mul_left_comm]
        _ = p.1 * (p.2 * e) := by rw [← hM, he]
        _ = p.2 * (p.1 * e) := by rw [Nat.mul_left_comm]
        _ = p.2 * (gcdP (lcmP l) l * t) := by rw [ht]
        _ = gcdP (lcmP l) l * (p.2 * t) := by rw [Nat.mul_left_comm]
    have h4 := Nat.eq_of_mul_eq_mul_left hgp h3
    have hc : Nat.Coprime p.2 p.1 := by rw [Nat.Coprime, Nat.gcd_comm]; exact (hl p hp).2
    exact hc.dvd_of_dvd_mul_left ⟨t, h4⟩
  have hMp : 0 < M := by
    rcases Nat.eq_zero_or_pos M with h | h
    · rw [h, Nat.mul_zero] at hM; omega
    · exact h
  have hle := Nat.le_of_dvd hMp hdM
  generalize gcdP (lcmP l) l = g at hM
  generalize lcmP l = L at *
  rcases g with _ | _ | g
  · simp at hM; omega
  · rfl
  · have : 2 * M ≤ (g + 1 + 1) * M := Nat.mul_le_mul_right _ (by omega)
    omega

/-- rows of a table, one behind the other -/
def flatF (n : Nat) (f : Nat → Nat → Nat × Nat) : Nat → List (Nat × Nat)
  | 0 => []
  | i + 1 => flatF n f i ++ (List.range n).map (f i)
theorem flatF_length (n : Nat) (f : Nat → Nat → Nat × Nat) : ∀ R, (flatF n f R).length = R * n
  | 0 => by simp [flatF]
  | R + 1 => by rw [flatF, List.length_append, flatF_length n f R, Nat.succ_mul]; simp
theorem flatF_get {n : Nat} {f : Nat → Nat → Nat × Nat} : ∀ {R i k : Nat}, i < R → k < n → (flatF n f R)[i * n + k]? = some (f i k)
  | R + 1, i, k, hi, hk => by
    rw [flatF]
    rcases Nat.lt_or_ge i R with h | h
    · rw [List.getElem?_append_left (by rw [flatF_length]; have : (i + 1) * n ≤ R * n := Nat.mul_le_mul_right _ h; rw [Nat.succ_mul] at this; omega)]
      exact flatF_get h hk
    · obtain rfl : i = R := by omega
      rw [List.getElem?_append_right (by rw [flatF_length]; omega), flatF_length]
      rw [show i * n + k - i * n = k by omega]
      simp [hk]
theorem flatF_mem {n : Nat} {f : Nat → Nat → Nat × Nat} {p : Nat × Nat} : ∀ {R : Nat}, p ∈ flatF n f R → ∃ i k, i < R ∧ k < n ∧ p = f i k
  | 0, h => by simp [flatF] at h
  | R + 1, h => by
    rw [flatF] at h
    rcases List.mem_append.mp h with h | h
    · obtain ⟨i, k, hi, hk, e⟩ := flatF_mem h
      exact ⟨i, k, by omega, hk, e⟩
    · obtain ⟨k, hk, rfl⟩ := List.mem_map.mp h
      exact ⟨R, k, by omega, List.mem_range.mp hk, rfl⟩

/-- a fraction in its lowest terms -/
def lowP (a b : Nat) : Nat × Nat := (a / Nat.gcd a b, b / Nat.gcd a b)
theorem lowP_low {a b : Nat} (hb : 0 < b) : LowP (lowP a b) := by
  have hg : 0 < Nat.gcd a b := Nat.gcd_pos_of_pos_right _ hb
  exact ⟨Nat.div_pos (Nat.le_of_dvd hb (Nat.gcd_dvd_right _ _)) hg, (by show Nat.gcd (a / Nat.gcd a b) (b / Nat.gcd a b) = 1; rw [Nat.gcd_div (Nat.gcd_dvd_left a b) (Nat.gcd_dvd_right a b)]; exact Nat.div_self hg)⟩
theorem lowP_cross (a b : Nat) : (lowP a b).1 * b = a * (lowP a b).2 := by
  obtain ⟨x, hx⟩ := Nat.gcd_dvd_left a b
  obtain ⟨y, hy⟩ := Nat.gcd_dvd_right a b
  show a / Nat.gcd a b * b = a * (b / Nat.gcd a b)
  rw [Nat.mul_comm (a / Nat.gcd a b) b, ← Nat.mul_div_assoc _ (Nat.gcd_dvd_left a b), ← Nat.mul_div_assoc _ (Nat.gcd_dvd_right a b), Nat.mul_comm]
theorem lowP_scale {a b c : Nat} (hc : 0 < c) : lowP (c * a) (c * b) = lowP a b := by
  unfold lowP
  rw [Nat.gcd_mul_left, Nat.mul_div_mul_left _ _ hc, Nat.mul_div_mul_left _ _ hc]
/-- a product of two fractions in their lowest terms, made lowest -/
theorem lowP_times {a b c d : Nat} (hb : 0 < b) (hd : 0 < d) : lowP ((lowP a b).1 * (lowP c d).1) ((lowP a b).2 * (lowP c d).2) = lowP (a * c) (b * d) := by
  have h1 : 0 < Nat.gcd a b := Nat.gcd_pos_of_pos_right _ hb
  have h2 : 0 < Nat.gcd c d := Nat.gcd_pos_of_pos_right _ hd
  rw [← lowP_scale (c := Nat.gcd a b * Nat.gcd c d) (Nat.mul_pos h1 h2)]
  have e1 : Nat.gcd a b * (a / Nat.gcd a b) = a := Nat.mul_div_cancel' (Nat.gcd_dvd_left a b)
  have e2 : Nat.gcd a b * (b / Nat.gcd a b) = b := Nat.mul_div_cancel' (Nat.gcd_dvd_right a b)
  have e3 : Nat.gcd c d * (c / Nat.gcd c d) = c := Nat.mul_div_cancel' (Nat.gcd_dvd_left c d)
  have e4 : Nat.gcd c d * (d / Nat.gcd c d) = d := Nat.mul_div_cancel' (Nat.gcd_dvd_right c d)
  congr 1
  · show Nat.gcd a b * Nat.gcd c d * (a / Nat.gcd a b * (c / Nat.gcd c d)) = a * c
    rw [Nat.mul_mul_mul_comm, e1, e3]
  · show Nat.gcd a b * Nat.gcd c d * (b / Nat.gcd a b * (d / Nat.gcd c d)) = b * d
    rw [Nat.mul_mul_mul_comm, e2, e4]

def sumW (f : Nat → Nat) : Nat → Nat
  | 0 => 0
  | k + 1 => sumW f k + f k
theorem sumW_map (f : Nat → Nat) : ∀ n, ((List.range n).map f).sum = sumW f n
  | 0 => by simp [sumW]
  | n + 1 => by rw [List.range_succ, List.map_append, List.sum_append, sumW_map f n]; simp [sumW]
theorem sumW_mul (f : Nat → Nat) (c : Nat) : ∀ n, sumW (fun k => f k * c) n = sumW f n * c
  | 0 => by simp [sumW]
  | n + 1 => by simp only [sumW, sumW_mul f c n, Nat.add_mul]
theorem sumW_congr {f g : Nat → Nat} : ∀ {n : Nat}, (∀ i, i < n → f i = g i) → sumW f n = sumW g n
  | 0, _ => rfl
  | n + 1, h => by simp only [sumW]; rw [sumW_congr fun i hi => h i (by omega), h n (by omega)]
theorem sumP_flat (L n : Nat) (f : Nat → Nat → Nat × Nat) : ∀ R, sumP L (flatF n f R) = sumW (fun i => sumW (fun k => wholeP L (f i k)) n) R
  | 0 => by simp [sumP, flatF, sumW]
  | R + 1 => by
    have h := sumP_flat L n f R
    have e : sumP L (flatF n f (R + 1)) = sumP L (flatF n f R) + sumP L ((List.range n).map (f R)) := by simp [sumP, flatF]
    rw [e, h]
    have e2 : sumP L ((List.range n).map (f R)) = sumW (fun k => wholeP L (f R k)) n := by
      rw [← sumW_map]; simp [sumP, List.map_map]; rfl
    rw [e2]; rfl
/-- the chances of what goes in and comes out -/
def chaF (p : Nat → Nat) (S : Nat) (c : Nat → Nat → Nat) (T : Nat → Nat) (i k : Nat) : Nat × Nat := lowP (c i k * p i) (S * T i)
theorem chaF_sum {p : Nat → Nat} {S : Nat} {c : Nat → Nat → Nat} {T : Nat → Nat} {n R : Nat} (hS : S = sumW p R) (hS0 : 0 < S) (hT : ∀ i, i < R → T i = sumW (c i) n ∧ 0 < T i) :
    sumP (lcmP (flatF n (chaF p S c T) R)) (flatF n (chaF p S c T) R) = lcmP (flatF n (chaF p S c T) R) := by
  have hd : ∀ i k, i < R → k < n → (chaF p S c T i k).2 ∣ lcmP (flatF n (chaF p S c T) R) := fun i k hi hk => lcmP_dvd _ _ (List.mem_of_getElem? (flatF_get hi hk))
  generalize lcmP (flatF n (chaF p S c T) R) = L at *
  rw [sumP_flat]
  have h1 : ∀ i, i < R → sumW (fun k => wholeP L (chaF p S c T i k)) n * S = p i * L := by
    intro i hi
    obtain ⟨e, h0⟩ := hT i hi
    refine Nat.eq_of_mul_eq_mul_right h0 ?_
    rw [Nat.mul_assoc, ← sumW_mul]
    have h2 : sumW (fun k => wholeP L (chaF p S c T i k) * (S * T i)) n = sumW (fun k => c i k * (p i * L)) n := by
      refine sumW_congr fun k hk => ?_
      show wholeP L (chaF p S c T i k) * (S * T i) = c i k * (p i * L)
      obtain ⟨e, he⟩ := hd i k hi hk
      have hp : 0 < (chaF p S c T i k).2 := (lowP_low (Nat.mul_pos hS0 h0)).1
      have hx : (chaF p S c T i k).1 * (S * T i) = c i k * p i * (chaF p S c T i k).2 := lowP_cross _ _
      unfold wholeP
      rw [he, Nat.mul_div_cancel_left _ hp, Nat.mul_right_comm, hx, ← Nat.mul_assoc, Nat.mul_assoc, Nat.mul_assoc]
    rw [h2, sumW_mul, e, Nat.mul_comm]
  refine Nat.eq_of_mul_eq_mul_right hS0 ?_
  rw [← sumW_mul, sumW_congr h1, sumW_mul, ← hS, Nat.mul_comm]
theorem chaF_gcd {p : Nat → Nat} {S : Nat} {c : Nat → Nat → Nat} {T : Nat → Nat} {n R : Nat} (hS : S = sumW p R) (hS0 : 0 < S) (hT : ∀ i, i < R → T i = sumW (c i) n ∧ 0 < T i) :
    gcdP (lcmP (flatF n (chaF p S c T) R)) (flatF n (chaF p S c T) R) = 1 := by
  refine gcdP_one _ (fun q hq => ?_) (chaF_sum hS hS0 hT)
  obtain ⟨i, k, hi, hk, rfl⟩ := flatF_mem hq
  exact lowP_low (Nat.mul_pos hS0 (hT i hi).2)
end Go.Proofs.YtklhfagcembigaaGreatDoor

/- Guesses: the greatest of each column, and how much of all they are. -/
namespace Go.Proofs.YtklhfagcembigaaGreatDoor

def mxN (Z : Nat → Nat → Nat) (k : Nat) : Nat → Nat
  | 0 => 0
  | i + 1 => if mxN Z k i < Z i k then Z i k else mxN Z k i
def lkN (Z : Nat → Nat → Nat) (k : Nat) : Nat → Int
  | 0 => -1
  | i + 1 => if mxN Z k i < Z i k then (i : Int) else lkN Z k i
def colN (Z : Nat → Nat → Nat) (R k : Nat) : Nat := sumW (fun i => Z i k) R
def allN (Z : Nat → Nat → Nat) (R k : Nat) : Nat := sumW (colN Z R) k
def rightN (Z : Nat → Nat → Nat) (R k : Nat) : Nat := sumW (fun c => mxN Z c R) k
theorem mxN_le (Z : Nat → Nat → Nat) (k : Nat) : ∀ R, mxN Z k R ≤ colN Z R k
  | 0 => Nat.le_refl _
  | R + 1 => by
    have h := mxN_le Z k R
    show (if mxN Z k R < Z R k then Z R k else mxN Z k R) ≤ colN Z R k + Z R k
    split <;> omega
theorem lkN_ge (Z : Nat → Nat → Nat) (k : Nat) : ∀ R, -1 ≤ lkN Z k R ∧ lkN Z k R ≤ (R : Int)
  | 0 => ⟨by simp [lkN], by simp [lkN]⟩
  | R + 1 => by
    have h := lkN_ge Z k R
    show -1 ≤ (if mxN Z k R < Z R k then (R : Int) else lkN Z k R) ∧ (if mxN Z k R < Z R k then (R : Int) else lkN Z k R) ≤ _
    split <;> (constructor <;> omega)
theorem sumW_mono {f g : Nat → Nat} : ∀ {n : Nat}, (∀ i, i < n → f i ≤ g i) → sumW f n ≤ sumW g n
  | 0, _ => Nat.le_refl _
  | n + 1, h => by
    have h1 := sumW_mono (n := n) fun i hi => h i (by omega)
    have h2 := h n (by omega)
    show sumW f n + f n ≤ sumW g n + g n
    omega
theorem sumW_le {f : Nat → Nat} {k : Nat} : ∀ {n : Nat}, k ≤ n → sumW f k ≤ sumW f n
  | 0, h => by obtain rfl : k = 0 := by omega
               exact Nat.le_refl _
  | n + 1, h => by
    rcases Nat.lt_or_ge k (n + 1) with h1 | h1
    · have := sumW_le (f := f) (k := k) (n := n) (by omega)
      show _ ≤ sumW f n + f n
      omega
    · obtain rfl : k = n + 1 := by omega
      exact Nat.le_refl _
theorem rightN_le (Z : Nat → Nat → Nat) (R k : Nat) : rightN Z R k ≤ allN Z R k := sumW_mono fun c _ => mxN_le Z c R
theorem sumW_add (f g : Nat → Nat) : ∀ n, sumW (fun k => f k + g k) n = sumW f n + sumW g n
  | 0 => rfl
  | n + 1 => by
    have := sumW_add f g n
    show sumW (fun k => f k + g k) n + (f n + g n) = sumW f n + f n + (sumW g n + g n)
    omega
theorem sumW_zero : ∀ n, sumW (fun _ => 0) n = 0
  | 0 => rfl
  | n + 1 => by show sumW (fun _ => 0) n + 0 = 0; rw [sumW_zero n]
theorem sumW_swap (Z : Nat → Nat → Nat) (R : Nat) : ∀ C, sumW (fun k => sumW (fun i => Z i k) R) C = sumW (fun i => sumW (Z i) C) R
  | 0 => by show 0 = sumW (fun _ => 0) R; rw [sumW_zero]
  | C + 1 => by
    have h := sumW_swap Z R C
    show sumW (fun k => sumW (fun i => Z i k) R) C + sumW (fun i => Z i C) R = sumW (fun i => sumW (Z i) C + Z i C) R
    rw [h, sumW_add]
theorem allN_whole (L C : Nat) (f : Nat → Nat → Nat × Nat) (R : Nat) : allN (fun i k => wholeP L (f i k)) R C = sumP L (flatF C f R) := by
  rw [sumP_flat]
  exact sumW_swap _ R C
theorem lowP_whole {L : Nat} {p : Nat × Nat} (hp : LowP p) (hd : p.2 ∣ L) (hL : 0 < L) : lowP (wholeP L p) L = p := by
  obtain ⟨e, he⟩ := hd
  have he0 : 0 < e := by
    rcases Nat.eq_zero_or_pos e with h | h
    · rw [h, Nat.mul_zero] at he; omega
    · exact h
  have h1 : wholeP L p = e * p.1 := by unfold wholeP; rw [he, Nat.mul_div_cancel_left _ hp.1, Nat.mul_comm]
  rw [h1, he, Nat.mul_comm p.2 e, lowP_scale he0]
  unfold lowP
  rw [hp.2, Nat.div_one, Nat.div_one]
theorem lowP_lt {x m L : Nat} (hL : 0 < L) : (lowP m L).1 * (lowP x L).2 < (lowP x L).1 * (lowP m L).2 ↔ m < x := by
  have h1 := lowP_cross x L
  have h2 := lowP_cross m L
  have p1 := (lowP_low (a := x) hL).1
  have p2 := (lowP_low (a := m) hL).1
  generalize (lowP x L).1 = a at *
  generalize (lowP x L).2 = b at *
  generalize (lowP m L).1 = c at *
  generalize (lowP m L).2 = d at *
  have e1 : c * b * L = m * (d * b) := by rw [Nat.mul_right_comm, h2, Nat.mul_assoc]
  have e2 : a * d * L = x * (d * b) := by rw [Nat.mul_right_comm, h1, Nat.mul_assoc, Nat.mul_comm b d]
  have hdb : 0 < d * b := Nat.mul_pos p2 p1
  constructor
  · intro h
    have h3 : c * b * L < a * d * L := Nat.mul_lt_mul_of_pos_right h hL
    rw [e1, e2] at h3
    exact Nat.lt_of_mul_lt_mul_right h3
  · intro h
    have h3 : m * (d * b) < x * (d * b) := Nat.mul_lt_mul_of_pos_right h hdb
    rw [← e1, ← e2] at h3
    exact Nat.lt_of_mul_lt_mul_right h3
theorem lowP_le_cross {x y L : Nat} (hL : 0 < L) (h : y ≤ x) : (lowP y L).1 * (lowP x L).2 ≤ (lowP x L).1 * (lowP y L).2 := by
  rcases Nat.lt_or_ge y x with h1 | h1
  · exact Nat.le_of_lt ((lowP_lt hL).2 h1)
  · obtain rfl : x = y := by omega
    exact Nat.le_refl _
theorem lowP_sub {x y L : Nat} (hL : 0 < L) : lowP ((lowP x L).1 * (lowP y L).2 - (lowP y L).1 * (lowP x L).2) ((lowP x L).2 * (lowP y L).2) = lowP (x - y) L := by
  have g1 : 0 < Nat.gcd x L := Nat.gcd_pos_of_pos_right _ hL
  have g2 : 0 < Nat.gcd y L := Nat.gcd_pos_of_pos_right _ hL
  have e1 : Nat.gcd x L * (lowP x L).1 = x := Nat.mul_div_cancel' (Nat.gcd_dvd_left x L)
  have e2 : Nat.gcd x L * (lowP x L).2 = L := Nat.mul_div_cancel' (Nat.gcd_dvd_right x L)
  have e3 : Nat.gcd y L * (lowP y L).1 = y := Nat.mul_div_cancel' (Nat.gcd_dvd_left y L)
  have e4 : Nat.gcd y L * (lowP y L).2 = L := Nat.mul_div_cancel' (Nat.gcd_dvd_right y L)
  rw [← lowP_scale (c := Nat.gcd x L * Nat.gcd y L) (Nat.mul_pos g1 g2), ← lowP_scale (a := x - y) (b := L) hL]
  congr 1
  · rw [Nat.mul_sub, Nat.mul_sub, Nat.mul_mul_mul_comm, e1, e4, Nat.mul_comm (lowP y L).1, Nat.mul_mul_mul_comm, e2, e3, Nat.mul_comm x L]
  · rw [Nat.mul_mul_mul_comm, e2, e4]
end Go.Proofs.YtklhfagcembigaaGreatDoor

/- FANO's inequality of whole numbers: a table, a guess of each column. Plain functions. -/
namespace Go.Proofs.YtklhfagcembigaaGreatDoor

theorem sum_pick (x y g : Nat) : ∀ n, sumA (fun i => if i = g then x else y) n = if g < n then x + (n - 1) * y else n * y
  | 0 => by simp [sumA]
  | n + 1 => by
    simp only [sumA, sum_pick x y g n]
    rcases Nat.lt_trichotomy g n with h | h | h
    · rw [if_pos h, if_neg (by omega), if_pos (by omega)]
      obtain ⟨m, rfl⟩ : ∃ m, n = m + 1 := ⟨n - 1, by omega⟩
      simp only [Nat.add_sub_cancel, Nat.add_mul]; omega
    · subst h
      rw [if_neg (by omega), if_pos rfl, if_pos (by omega)]
      simp only [Nat.add_sub_cancel]; omega
    · rw [if_neg (by omega), if_neg (by omega), if_neg (by omega), Nat.add_mul]; omega
theorem prod_pick (z : Nat → Nat) (x y g : Nat) : ∀ n, prodA (fun i => (if i = g then x else y) ^ z i) n = if g < n then x ^ z g * y ^ (sumA z n - z g) else y ^ sumA z n
  | 0 => by simp [prodA, sumA]
  | n + 1 => by
    simp only [prodA, sumA, prod_pick z x y g n]
    rcases Nat.lt_trichotomy g n with h | h | h
    · rw [if_pos h, if_neg (by omega), if_pos (by omega)]
      have h1 := sumA_ge z h
      rw [show sumA z n + z n - z g = sumA z n - z g + z n by omega, Nat.pow_add, Nat.mul_assoc]
    · subst h
      rw [if_neg (by omega), if_pos rfl, if_pos (by omega), Nat.add_sub_cancel, Nat.mul_comm]
    · rw [if_neg (by omega), if_neg (by omega), if_neg (by omega), Nat.pow_add]
/-- A column: what is guessed against the rest. -/
theorem fano_col (z : Nat → Nat) (n g S E : Nat) (hg : g < n) : sumA z n ^ sumA z n * ((S * (n - 1)) ^ z g * E ^ (sumA z n - z g)) ≤ ((n - 1) * (S + E)) ^ sumA z n * prodA (fun i => z i ^ z i) n := by
  have h := sums_le z (fun i => if i = g then S * (n - 1) else E) n
  rw [prod_pick, if_pos hg, sum_pick, if_pos hg] at h
  rwa [show S * (n - 1) + (n - 1) * E = (n - 1) * (S + E) by rw [Nat.mul_add, Nat.mul_comm S]] at h
theorem fsum_le {f h : Nat → Nat} : ∀ {n : Nat}, (∀ i, i < n → f i ≤ h i) → sumA f n ≤ sumA h n
  | 0, _ => Nat.le_refl _
  | n + 1, hh => by
    have h1 := fsum_le (n := n) fun i hi => hh i (by omega)
    have h2 := hh n (by omega)
    simp only [sumA]; omega
theorem fano_cols (Z : Nat → Nat → Nat) (n S E : Nat) (gs : Nat → Nat) : ∀ C, (∀ k, k < C → gs k < n) →
    prodA (fun k => sumA (fun i => Z i k) n ^ sumA (fun i => Z i k) n) C * ((S * (n - 1)) ^ sumA (fun k => Z (gs k) k) C * E ^ (sumA (fun k => sumA (fun i => Z i k) n) C - sumA (fun k => Z (gs k) k) C)) ≤ ((n - 1) * (S + E)) ^ sumA (fun k => sumA (fun i => Z i k) n) C * prodA (fun k => prodA (fun i => Z i k ^ Z i k) n) C
  | 0, _ => by simp [prodA, sumA]
  | C + 1, hg => by
    have ih := fano_cols Z n S E gs C fun k hk => hg k (by omega)
    have h1 := fano_col (fun i => Z i C) n (gs C) S E (hg C (by omega))
    have h2 : Z (gs C) C ≤ sumA (fun i => Z i C) n := sumA_ge (fun i => Z i C) (hg C (by omega))
    have h3 : sumA (fun k => Z (gs k) k) C ≤ sumA (fun k => sumA (fun i => Z i k) n) C := fsum_le fun k hk => sumA_ge (fun i => Z i k) (hg k (by omega))
    have h4 := Nat.mul_le_mul ih h1
    simp only [sumA, prodA] at h4 ⊢
    rw [show sumA (fun k => sumA (fun i => Z i k) n) C + sumA (fun i => Z i C) n - (sumA (fun k => Z (gs k) k) C + Z (gs C) C) = (sumA (fun k => sumA (fun i => Z i k) n) C - sumA (fun k => Z (gs k) k) C) + (sumA (fun i => Z i C) n - Z (gs C) C) by omega, Nat.pow_add E, Nat.pow_add (S * (n - 1)), Nat.pow_add ((n - 1) * (S + E))]
    refine Nat.le_trans (Nat.le_of_eq ?_) (Nat.le_trans h4 (Nat.le_of_eq ?_))
    · ac_rfl
    · ac_rfl
/-- FANO, as products of powers: what is not known of the row behind the column is at most the entropy of being wrong, and the logarithm of one row less as often as one is wrong. -/
theorem fano_all (Z : Nat → Nat → Nat) (n C N S : Nat) (gs : Nat → Nat) (hn : 1 < n) (hg : ∀ k, k < C → gs k < n) (hN : N = sumA (fun k => sumA (fun i => Z i k) n) C) (hS : S = sumA (fun k => Z (gs k) k) C) :
    prodA (fun k => sumA (fun i => Z i k) n ^ sumA (fun i => Z i k) n) C * (S ^ S * (N - S) ^ (N - S)) ≤ (n - 1) ^ (N - S) * N ^ N * prodA (fun k => prodA (fun i => Z i k ^ Z i k) n) C := by
  have h3 : S ≤ N := by
    rw [hN, hS]; exact fsum_le fun k hk => sumA_ge (fun i => Z i k) (hg k hk)
  have h := fano_cols Z n S (N - S) gs C hg
  rw [← hN, ← hS, show S + (N - S) = N by omega] at h
  refine Nat.le_of_mul_le_mul_right (c := (n - 1) ^ S) ?_ (Nat.pow_pos (by omega))
  have e : ((n - 1) * N) ^ N = (n - 1) ^ (N - S) * (n - 1) ^ S * N ^ N := by
    rw [Nat.mul_pow, ← Nat.pow_add, show N - S + S = N by omega]
  rw [e, Nat.mul_pow] at h
  refine Nat.le_trans (Nat.le_of_eq ?_) (Nat.le_trans h (Nat.le_of_eq ?_))
  · ac_rfl
  · ac_rfl
/-- The greatest of a column is one of it. -/
theorem mx_at (Z : Nat → Nat → Nat) (k : Nat) : ∀ R, 0 < R → ∃ g, g < R ∧ Z g k = mxN Z k R
  | R + 1, _ => by
    by_cases h : mxN Z k R < Z R k
    · exact ⟨R, by omega, by simp only [mxN, if_pos h]⟩
    · rcases Nat.eq_zero_or_pos R with h0 | h0
      · subst h0
        exact ⟨0, by omega, by show Z 0 k = if mxN Z k 0 < Z 0 k then Z 0 k else mxN Z k 0; have h9 : mxN Z k 0 = 0 := rfl; split <;> omega⟩
      · obtain ⟨g, h1, h2⟩ := mx_at Z k R h0
        exact ⟨g, by omega, by simp only [mxN, if_neg h, h2]⟩
theorem sumW_A (f : Nat → Nat) : ∀ n, sumW f n = sumA f n
  | 0 => rfl
  | n + 1 => by show sumW f n + f n = sumA f n + f n; rw [sumW_A f n]
/-- FANO of the guess that channel.Guess makes: S of N are right. -/
theorem fano_guess (Z : Nat → Nat → Nat) (n C N S : Nat) (hn : 1 < n) (hN : N = allN Z n C) (hS : S = rightN Z n C) :
    prodA (fun k => colN Z n k ^ colN Z n k) C * (S ^ S * (N - S) ^ (N - S)) ≤ (n - 1) ^ (N - S) * N ^ N * prodA (fun k => prodA (fun i => Z i k ^ Z i k) n) C := by
  have hex := fun k => mx_at Z k n (by omega)
  have e : ∀ k, colN Z n k = sumA (fun i => Z i k) n := fun k => sumW_A _ n
  have h := fano_all Z n C N S (fun k => Classical.choose (hex k)) hn (fun k _ => (Classical.choose_spec (hex k)).1)
    (by rw [hN]; unfold allN; rw [sumW_A]; exact sumA_congr fun k _ => e k)
    (by rw [hS]; unfold rightN; rw [sumW_A]; exact sumA_congr fun k _ => (Classical.choose_spec (hex k)).2.symm)
  simp only [e]
  exact h
end Go.Proofs.YtklhfagcembigaaGreatDoor

/- The law's copies of lists. -/
namespace Go.Proofs.YtklhfagcembigaaGreatDoor
open Go.RowKit

theorem append_zeroI (w : World) (ty : TypeId) (ad : Option Addr) (cap : Nat) : (Builtin.append_ #[22, 22] ty #[.slice none 0 0, .slice ad 0 cap]).run Tryz.prog w = .ok (.slice none 0 0) w := by
  obtain ⟨i, hi, hi2⟩ := Option.map_eq_some_iff.1 Tryz.infoInt
  refine run_append_nothing w _ _ ty 3 i Tryz.underlying22 hi none 0 0 (Nat.le_refl _) _ ?_
  cases ad with
  | none => exact Src.ofNil w Tryz.underlying22 cap
  | some a => exact Src.ofSlice w Tryz.underlying22 a 0 cap [] (by simp) (fun j u h => by simp at h) (fun u h => by simp at h)
theorem wpList_append_zeroI {w : World} {ops : Array Oper} {rest : List Oper} {o : Oper} {a : Act} {Q : Exit → Act → World → Prop} (hgd : o.guard = none) (s x : Operand)
    (ho : o.op = .call { callee := .builtin .append, args := #[s, x], argTypes := #[22, 22] })
    (ad : Option Addr) (cap : Nat) (hs : a.eval s = .slice none 0 0) (hx : a.eval x = .slice ad 0 cap)
    (h : wpList Tryz.prog ops Q rest (a.put o.dst (.slice none 0 0)) w) : wpList Tryz.prog ops Q (o :: rest) a w := by
  refine wpList_plain hgd fun K hK => ?_
  have hrun := append_zeroI w o.type ad cap
  unfold Oper.wp
  simp [execOp, ho, resolve, invoke, builtin, hs, hx, hrun, Result.andThen]
  exact hK _ _ h

theorem numsAt_own {w : World} {base : Nat} {v : Value} {n : Nat} {z : Nat → Int} (h : w.ownsRow base 3 1 v n (numCells z n)) : NumsAt w v n z := by
  rcases h.2 with ⟨hv, h0⟩ | ⟨g, cap, cur, hv, _⟩
  · exact Or.inl ⟨none, 0, hv, h0⟩
  · rcases Nat.eq_zero_or_pos n with h0 | h0
    · exact Or.inl ⟨_, _, by rw [hv, h0], h0⟩
    · subst hv
      exact Or.inr ⟨g, 0, cap, rfl, h0, rowAt_of_row h⟩
set_option maxRecDepth 100000 in
set_option maxHeartbeats 1000000 in
theorem ints_row (v : Value) (n : Nat) (z : Nat → Int) (w : World) (h : NumsAt w v n z) (hn : n ≤ 100000) :
    Calls Tryz.prog 9 #[v] w fun e w' => ∃ v', e = .returned v' ∧ w'.ownsRow w.heap.size 3 1 v' n (numCells z n) ∧ Below w.heap.size w w' := by
  rcases h with ⟨ad, cap, rfl, rfl⟩ | ⟨b, o, cap, rfl, h0, hr⟩
  · go_enter Tryz.func9, Tryz.ntmps9
    go_wp2_with (at_builtin; go_must (refine wpList_append_zeroI rfl _ _ rfl ad cap rfl rfl ?_))
    go_ret
    exact ⟨_, rfl, ⟨rfl, Or.inl ⟨rfl, rfl⟩⟩, Below.refl _ _⟩
  · obtain ⟨i, hi, hi2⟩ := Option.map_eq_some_iff.1 Tryz.infoInt
    obtain ⟨hz, hsz, hby⟩ : i.zero = some (.int .i64 0) ∧ i.size = 1 ∧ i.bytes = 8 := by simpa using hi2
    have HR := Hid.mk' hr
    have HI : Hid (Tryz.prog.info? 3 = some i) := hi
    have HZ : Hid (i.zero = some (.int .i64 0)) := hz
    have HS : Hid (i.size = 1) := hsz
    have HY : Hid (i.bytes = 8) := hby
    have HC : Hid (∀ u, u ∈ numCells z n → u.oneCell' = true) := fun u hu => by obtain ⟨x, rfl⟩ := numCells_ints z n u hu; rfl
    have HL : Hid ((numCells z n).length = n * 1) := by show _ = _; rw [numCells_length, Nat.mul_one]
    clear hr hi2 hi hz hsz hby
    go_enter Tryz.func9, Tryz.ntmps9
    go_wp2_with (at_builtin; go_must (refine wpList_append_lies _ rfl _ _ _ rfl w.heap.size 3 i _ 1 8 Tryz.underlying22 HI.out HZ.out HS.out HY.out rfl (by omega) (.slice none 0 0) 0 [] rfl ⟨rfl, Or.inl ⟨rfl, rfl⟩⟩ ⟨b, o, none⟩ n cap (numCells z n) rfl HL.out (fun j u hu => numCells_news HR.out j u hu) HC.out h0 (by unfold maxLen; omega) (by omega) (by simp) _ rfl ?_; intro g cap' w1 hown hgrow hat hlt; have HOWN := Hid.mk' hown; have HG := Hid.mk' hgrow; clear hown hgrow hat))
    go_ret
    exact ⟨_, rfl, by simpa using HOWN.out, (Below.refl _ _).grown HG.out (Nat.le_refl _) (fun k hk => by cases hk)⟩
theorem ints_any (v : Value) (n : Nat) (z : Nat → Int) (w : World) (h : NumsAt w v n z) (hn : n ≤ 100000) :
    Calls Tryz.prog 9 #[v] w fun e w' => ∃ v', e = .returned v' ∧ NumsAt w' v' n z ∧ Below w.heap.size w w' := by
  refine (ints_row v n z w h hn).mono ?_
  rintro e w' ⟨v', rfl, h1, h2⟩
  exact ⟨v', rfl, numsAt_own h1, h2⟩
end Go.Proofs.YtklhfagcembigaaGreatDoor

/- Nothing of the library is laid here. -/

/- Tables in memory; all of a table's weights as one list. -/
namespace Go.Proofs.YtklhfagcembigaaGreatDoor
open Go.RowKit

def TabAt (w : World) (v : Value) (R : Nat) (vs : Nat → Value) (ns : Nat → Nat) (zs : Nat → Nat → Int) : Prop := (∃ ad cap, v = .slice ad 0 cap ∧ R = 0) ∨ ∃ b o cap, v = .slice (some ⟨b, o, none⟩) R cap ∧ 0 < R ∧ ∀ i, i < R → w.cell? ⟨b, o + i, none⟩ = some (vs i) ∧ NumsAt w (vs i) (ns i) (zs i)
theorem TabAt.later {w w' : World} {v : Value} {R : Nat} {vs : Nat → Value} {ns : Nat → Nat} {zs : Nat → Nat → Int} (h : TabAt w v R vs ns zs) (hb : Below w.heap.size w w') : TabAt w' v R vs ns zs := by
  rcases h with h | ⟨b, o, cap, hv, hn, hr⟩
  · exact Or.inl h
  · exact Or.inr ⟨b, o, cap, hv, hn, fun i hi => ⟨by rw [hb.cell (cell_lt (hr i hi).1)]; exact (hr i hi).1, (hr i hi).2.later hb⟩⟩
theorem TabAt.form {w : World} {v : Value} {R : Nat} {vs : Nat → Value} {ns : Nat → Nat} {zs : Nat → Nat → Int} (h : TabAt w v R vs ns zs) : ∃ ad cap, v = .slice ad R cap := by
  rcases h with ⟨ad, cap, rfl, rfl⟩ | ⟨b, o, cap, rfl, _⟩
  · exact ⟨_, _, rfl⟩
  · exact ⟨_, _, rfl⟩
def rowL (z : Nat → Int) (n : Nat) : List Int := (List.range n).map z
/-- All weights of the first k rows. -/
def flatL (ns : Nat → Nat) (zs : Nat → Nat → Int) : Nat → List Int
  | 0 => []
  | k + 1 => flatL ns zs k ++ rowL (zs k) (ns k)
def cellL (l : List Int) : List Value := l.map fun x => .int .i64 x
theorem cellL_length (l : List Int) : (cellL l).length = l.length := by simp [cellL]
theorem cellL_append (l r : List Int) : cellL (l ++ r) = cellL l ++ cellL r := by simp [cellL]
theorem rowL_length (z : Nat → Int) (n : Nat) : (rowL z n).length = n := by simp [rowL]
theorem cellL_row (z : Nat → Int) : ∀ n, cellL (rowL z n) = numCells z n
  | 0 => rfl
  | n + 1 => by
    have ih := cellL_row z n
    unfold cellL rowL at ih ⊢
    rw [List.range_succ, List.map_append, List.map_append, ih]
    rfl
def sumT (ns : Nat → Nat) : Nat → Nat
  | 0 => 0
  | k + 1 => sumT ns k + ns k
theorem flatL_length (ns : Nat → Nat) (zs : Nat → Nat → Int) : ∀ k, (flatL ns zs k).length = sumT ns k
  | 0 => rfl
  | k + 1 => by
    show (flatL ns zs k ++ rowL (zs k) (ns k)).length = sumT ns k + ns k
    rw [List.length_append, flatL_length ns zs k, rowL_length]
theorem sumT_mono (ns : Nat → Nat) {k n : Nat} (h : k ≤ n) : sumT ns k ≤ sumT ns n := by
  induction n with
  | zero => obtain rfl : k = 0 := by omega
            exact Nat.le_refl _
  | succ n ih =>
    rcases Nat.lt_or_ge k (n + 1) with h' | h'
    · have := ih (by omega); show sumT ns k ≤ sumT ns n + ns n; omega
    · obtain rfl : k = n + 1 := by omega
      exact Nat.le_refl _
/-- A list as a row of numbers. -/
def atF (l : List Int) (i : Nat) : Int := l.getD i 0
theorem numCells_list : ∀ l : List Int, numCells (atF l) l.length = cellL l := fun l => by
  rw [← cellL_row]
  congr 1
  refine List.ext_getElem (by simp [rowL]) (fun i h1 h2 => ?_)
  simp [rowL, atF, List.getD, List.getElem?_eq_getElem h2]
theorem numsAt_row {w : World} {base : Nat} {v : Value} {l : List Int} (h : w.ownsRow base 3 1 v l.length (cellL l)) : NumsAt w v l.length (atF l) := by
  rcases h.2 with ⟨hv, h0⟩ | ⟨g, cap, cur, hv, _⟩
  · exact Or.inl ⟨none, 0, hv, h0⟩
  · rcases Nat.eq_zero_or_pos l.length with h0 | h0
    · exact Or.inl ⟨_, _, by rw [hv, h0], h0⟩
    · refine Or.inr ⟨g, 0, cap, hv, h0, ?_⟩
      subst hv
      rw [← numCells_list] at h
      exact rowAt_of_row h

theorem append_nothing (w : World) (ty : TypeId) (ao : Option Addr) (l c : Nat) (hl : l ≤ c) (ad : Option Addr) (cap : Nat) : (Builtin.append_ #[22, 22] ty #[.slice ao l c, .slice ad 0 cap]).run Tryz.prog w = .ok (.slice ao l c) w := by
  obtain ⟨i, hi, hi2⟩ := Option.map_eq_some_iff.1 Tryz.infoInt
  refine run_append_nothing w _ _ ty 3 i Tryz.underlying22 hi ao l c hl _ ?_
  cases ad with
  | none => exact Src.ofNil w Tryz.underlying22 cap
  | some a => exact Src.ofSlice w Tryz.underlying22 a 0 cap [] (by simp) (fun j u h => by simp at h) (fun u h => by simp at h)
theorem wpList_append_nothing {w : World} {ops : Array Oper} {rest : List Oper} {o : Oper} {a : Act} {Q : Exit → Act → World → Prop} (hgd : o.guard = none) (s x : Operand)
    (ho : o.op = .call { callee := .builtin .append, args := #[s, x], argTypes := #[22, 22] })
    (ao : Option Addr) (l c : Nat) (hl : l ≤ c) (ad : Option Addr) (cap : Nat) (hs : a.eval s = .slice ao l c) (hx : a.eval x = .slice ad 0 cap)
    (h : wpList Tryz.prog ops Q rest (a.put o.dst (.slice ao l c)) w) : wpList Tryz.prog ops Q (o :: rest) a w := by
  refine wpList_plain hgd fun K hK => ?_
  have hrun := append_nothing w o.type ao l c hl ad cap
  unfold Oper.wp
  simp [execOp, ho, resolve, invoke, builtin, hs, hx, hrun, Result.andThen]
  exact hK _ _ h
theorem row_shape {w : World} {base : Nat} {t : TypeId} {v : Value} {n : Nat} {xs : List Value} (h : w.ownsRow base t 1 v n xs) : ∃ ao c, v = .slice ao n c ∧ n ≤ c := by
  rcases h.2 with ⟨rfl, rfl⟩ | ⟨g, cap, cur, rfl, _, _, hc, _⟩
  · exact ⟨none, 0, rfl, Nat.le_refl _⟩
  · exact ⟨_, _, rfl, hc⟩
theorem below_grow {w wr w3 : World} {v : Value} {e : TypeId} {size n : Nat} {xs : List Value} (hB : Below w.heap.size w wr) (hR : wr.ownsRow w.heap.size e size v n xs) (hg : wr.grownBy w3 v.ownBlock) : Below w.heap.size w w3 :=
  hB.grown hg hB.size (fun k e => (hR.lt k e).1)

/-- Is a row longer than 16? Is one not as long as the first? -/
def longB (ns : Nat → Nat) : Nat → Bool
  | 0 => false
  | k + 1 => longB ns k || decide (16 < ns k)
def unevenB (ns : Nat → Nat) : Nat → Bool
  | 0 => false
  | k + 1 => unevenB ns k || !decide (ns k = ns 0)
theorem longB_mono {ns : Nat → Nat} {k n : Nat} (hk : k < n) (h : 16 < ns k) : longB ns n = true := by
  induction n with
  | zero => omega
  | succ n ih =>
    show (longB ns n || decide (16 < ns n)) = true
    rcases Nat.lt_or_ge k n with h' | h'
    · rw [ih h']; rfl
    · obtain rfl : k = n := by omega
      rw [decide_eq_true h, Bool.or_true]
theorem unevenB_mono {ns : Nat → Nat} {k n : Nat} (hk : k < n) (h : ns k ≠ ns 0) : unevenB ns n = true := by
  induction n with
  | zero => omega
  | succ n ih =>
    show (unevenB ns n || !decide (ns n = ns 0)) = true
    rcases Nat.lt_or_ge k n with h' | h'
    · rw [ih h']; rfl
    · obtain rfl : k = n := by omega
      rw [decide_eq_false h]; simp
/-- The number of a table's error, as the document says it. -/
def tabErr (R : Nat) (ns : Nat → Nat) (zs : Nat → Nat → Int) : Nat := if 16 < R then 2 else if longB ns R = true then 2 else if unevenB ns R = true then 3 else listErr (atF (flatL ns zs R)) (flatL ns zs R).length
end Go.Proofs.YtklhfagcembigaaGreatDoor

/- The document's TableError; the law's copies of tables. -/
namespace Go.Proofs.YtklhfagcembigaaGreatDoor
open Go.RowKit

theorem tabErr_many {R : Nat} {ns : Nat → Nat} {zs : Nat → Nat → Int} (h : 16 < R) : tabErr R ns zs = 2 := by unfold tabErr; exact if_pos h
theorem tabErr_long {R : Nat} {ns : Nat → Nat} {zs : Nat → Nat → Int} (h : ¬ 16 < R) (hl : longB ns R = true) : tabErr R ns zs = 2 := by unfold tabErr; rw [if_neg h, if_pos hl]
theorem tabErr_uneven {R : Nat} {ns : Nat → Nat} {zs : Nat → Nat → Int} (h : ¬ 16 < R) (hl : longB ns R = false) (hu : unevenB ns R = true) : tabErr R ns zs = 3 := by unfold tabErr; rw [if_neg h, if_neg (by rw [hl]; simp), if_pos hu]
theorem tabErr_even {R : Nat} {ns : Nat → Nat} {zs : Nat → Nat → Int} (h : ¬ 16 < R) (hl : longB ns R = false) (hu : unevenB ns R = false) : tabErr R ns zs = listErr (atF (flatL ns zs R)) (flatL ns zs R).length := by unfold tabErr; rw [if_neg h, if_neg (by rw [hl]; simp), if_neg (by rw [hu]; simp)]
theorem not_long {ns : Nat → Nat} : ∀ {n : Nat}, longB ns n = false → ∀ i, i < n → ns i ≤ 16
  | n, h, i, hi => by
    rcases Nat.lt_or_ge 16 (ns i) with h' | h'
    · rw [longB_mono hi h'] at h; cases h
    · exact h'
theorem sumT_le {ns : Nat → Nat} {B : Nat} : ∀ {n : Nat}, (∀ i, i < n → ns i ≤ B) → sumT ns n ≤ n * B
  | 0, _ => Nat.zero_le _
  | n + 1, h => by
    have h1 := sumT_le (ns := ns) (B := B) (n := n) (fun i hi => h i (by omega))
    have h2 := h n (by omega)
    show sumT ns n + ns n ≤ (n + 1) * B
    rw [Nat.add_mul]; omega
theorem sumT_small {ns : Nat → Nat} {R : Nat} (hR : ¬ 16 < R) (hl : longB ns R = false) : sumT ns R ≤ 256 := by
  have h1 := sumT_le (ns := ns) (B := 16) (not_long hl)
  have h2 : R * 16 ≤ 16 * 16 := Nat.mul_le_mul_right _ (by omega)
  omega

end Go.Proofs.YtklhfagcembigaaGreatDoor

/- The law's copies of tables; the program's list of a table's weights. -/
namespace Go.Proofs.YtklhfagcembigaaGreatDoor
open Go.RowKit

theorem Tryz.infoInts : (Tryz.prog.info? 22).map (fun i => (i.zero, i.size, i.bytes)) = some (some (.slice none 0 0), 1, 24) := by kernel_rfl
def rowV (vs : Nat → Value) (k : Nat) : List Value := (List.range k).map vs
theorem rowV_length (vs : Nat → Value) (k : Nat) : (rowV vs k).length = k := by simp [rowV]
theorem rowV_push (vs : Nat → Value) (k : Nat) (v : Value) : rowV vs k ++ [v] = rowV (fun i => if i = k then v else vs i) (k + 1) := by
  unfold rowV
  rw [List.range_succ, List.map_append]
  congr 1
  · refine List.map_congr_left (fun i hi => ?_)
    have := List.mem_range.1 hi
    rw [if_neg (by omega)]
  · simp
theorem tabAt_of_row {w : World} {base : Nat} {t : TypeId} {v : Value} {R : Nat} {vs : Nat → Value} {ns : Nat → Nat} {zs : Nat → Nat → Int} (h : w.ownsRow base t 1 v R (rowV vs R)) (hn : ∀ i, i < R → NumsAt w (vs i) (ns i) (zs i)) : TabAt w v R vs ns zs := by
  rcases h.2 with ⟨hv, h0⟩ | ⟨g, cap, cur, hv, _, hh, _, _, hs, ht⟩
  · exact Or.inl ⟨none, 0, hv, h0⟩
  · rcases Nat.eq_zero_or_pos R with h0 | h0
    · exact Or.inl ⟨_, _, by rw [hv, h0], h0⟩
    · refine Or.inr ⟨g, 0, cap, hv, h0, fun i hi => ⟨?_, hn i hi⟩⟩
      have h1 : (rowV vs R)[i]? = some (vs i) := by simp [rowV, hi]
      rw [← h1, ← ht, List.getElem?_take_of_lt (by omega)]
      simp [World.cell?, hh]
theorem own_past {w w' : World} {base : Nat} {t : TypeId} {sz : Nat} {v : Value} {n : Nat} {xs : List Value} (h : w.ownsRow base t sz v n xs) (hb : Below w.heap.size w w') : w'.ownsRow base t sz v n xs := by
  obtain ⟨hl, hr⟩ := h
  refine ⟨hl, ?_⟩
  rcases hr with hr | ⟨g, cap, cur, hv, hb1, hh, rest⟩
  · exact Or.inl hr
  · exact Or.inr ⟨g, cap, cur, hv, hb1, by rw [hb.block g (heap_lt hh)]; exact hh, rest⟩
/-- A row of another kind beside the one that is grown. -/
theorem own_beside {w w' : World} {b1 b2 : Nat} {t1 t2 : TypeId} {v u : Value} {n m s1 s2 : Nat} {xs ys : List Value} (h : w.ownsRow b1 t1 s1 v n xs) (k : w.ownsRow b2 t2 s2 u m ys) (ht : t1 ≠ t2) (hg : w.grownBy w' u.ownBlock) : w'.ownsRow b1 t1 s1 v n xs := by
  obtain ⟨hl, hr⟩ := h
  refine ⟨hl, ?_⟩
  rcases hr with hr | ⟨g, cap, cur, hv, hb1, hh, rest⟩
  · exact Or.inl hr
  · refine Or.inr ⟨g, cap, cur, hv, hb1, ?_, rest⟩
    rw [hg.block g (heap_lt hh) (fun e => ?_)]
    · exact hh
    · rcases k.2 with ⟨rfl, _⟩ | ⟨g', cap', cur', rfl, _, hh', _⟩
      · cases e
      · obtain rfl : g = g' := by simpa [Value.ownBlock] using e
        rw [hh] at hh'
        simp at hh'
        exact ht hh'.2
end Go.Proofs.YtklhfagcembigaaGreatDoor

/- dist.cells and dist.Table. -/
namespace Go.Proofs.YtklhfagcembigaaGreatDoor
open Go.RowKit

end Go.Proofs.YtklhfagcembigaaGreatDoor

/- The document's differences. -/
namespace Go.Proofs.YtklhfagcembigaaGreatDoor
open Go.RowKit

/-- What is less than nothing by a part of M. -/
theorem low_minus {M : Nat} (hM : 0 < M) (z : Int) : (0 * (lowD M z : Int) + -lowN M z * (1 : Nat)).tdiv ((Nat.gcd (0 * (lowD M z : Int) + -lowN M z * (1 : Nat)).natAbs (1 * lowD M z) : Nat) : Int) = lowN M (-z) ∧ 1 * lowD M z / Nat.gcd (0 * (lowD M z : Int) + -lowN M z * (1 : Nat)).natAbs (1 * lowD M z) = lowD M (-z) := by
  refine low_same hM (by have := lowD_pos hM z; omega) ?_
  have h1 := low_cross hM z
  rw [Nat.one_mul]
  generalize lowN M z = a at *
  generalize (lowD M z : Int) = c at *
  simp only [Int.zero_mul, Int.zero_add, Int.natCast_one, Int.mul_one]
  rw [Int.neg_mul, h1, Int.neg_mul]
/-- A part of a part: n of M times x of n is x of M. -/
theorem low_times {M n : Nat} (hM : 0 < M) (hn : 0 < n) (x : Int) : (lowN M n * lowN n x).tdiv ((Nat.gcd (lowN M n * lowN n x).natAbs (lowD M n * lowD n x) : Nat) : Int) = lowN M x ∧ lowD M n * lowD n x / Nat.gcd (lowN M n * lowN n x).natAbs (lowD M n * lowD n x) = lowD M x := by
  refine low_same hM (Nat.mul_pos (lowD_pos hM n) (lowD_pos hn x)) ?_
  have h1 := low_cross hM (n : Int)
  have h2 := low_cross hn x
  rw [Int.natCast_mul]
  generalize lowN M n = a at *
  generalize lowN n x = b at *
  generalize (lowD M n : Int) = c at *
  generalize (lowD n x : Int) = e at *
  calc a * b * (M : Int) = (a * (M : Int)) * b := by rw [Int.mul_assoc, Int.mul_comm b, ← Int.mul_assoc]
    _ = (b * (n : Int)) * c := by rw [h1, Int.mul_comm (n : Int) c, Int.mul_assoc, Int.mul_comm c, Int.mul_comm (n : Int) b]
    _ = x * (c * e) := by rw [h2, Int.mul_assoc, Int.mul_comm e c]
theorem low_self {M : Nat} (hM : 0 < M) : lowN M M = 1 ∧ lowD M M = 1 := by
  have h := low_same (M := M) (d := 1) (z := (M : Int)) (n := 1) hM (by decide) (by simp)
  simpa using And.intro h.1.symm h.2.symm
end Go.Proofs.YtklhfagcembigaaGreatDoor

/- The document's Entropy of a Wide, and EntropyOf. -/
namespace Go.Proofs.YtklhfagcembigaaGreatDoor
open Go.RowKit

/-- A Wide to which f came, in at most c calls. -/
structure WPuts (base M B : Nat) (W0 wr : World) (f : Int → Int) (c : Nat) (L0 : List Ent) (vp vc : Value) (L : List Ent) : Prop where
  wide : WideAt base M wr B vp vc L
  rise : Rising (absL L)
  val : ∀ x, atL (absL L) x = atL (absL L0) x + f x
  len : L.length ≤ L0.length + 20 * c
  kept : IntsKept W0 wr
  moved : Moved B W0 wr
  below : Below base W0 wr
theorem WPuts.trans {base M B : Nat} {W0 W1 W2 : World} {f g : Int → Int} {c d : Nat} {L0 L1 L2 : List Ent} {vp vc vp' vc' : Value} (h : WPuts base M B W0 W1 f c L0 vp vc L1) (k : WPuts base M B W1 W2 g d L1 vp' vc' L2) : WPuts base M B W0 W2 (fun x => f x + g x) (c + d) L0 vp' vc' L2 :=
  ⟨k.wide, k.rise, fun x => by rw [k.val, h.val]; omega, by have := h.len; have := k.len; omega, h.kept.trans k.kept, h.moved.trans k.moved, h.below.trans k.below⟩
theorem WPuts.congr {base M B : Nat} {W0 W1 : World} {f g : Int → Int} {c d : Nat} {L0 L1 : List Ent} {vp vc : Value} (h : WPuts base M B W0 W1 f c L0 vp vc L1) (hc : c ≤ d) (he : ∀ x, f x = g x) : WPuts base M B W0 W1 g d L0 vp vc L1 :=
  ⟨h.wide, h.rise, fun x => by rw [h.val, he], by have := h.len; omega, h.kept, h.moved, h.below⟩
theorem WPuts.later {base M B : Nat} {W0 W1 W2 : World} {f : Int → Int} {c : Nat} {L0 L1 : List Ent} {vp vc : Value} (h : WPuts base M B W0 W1 f c L0 vp vc L1) (hb : Below W1.heap.size W1 W2) : WPuts base M B W0 W2 f c L0 vp vc L1 :=
  ⟨h.wide.later hb, h.rise, h.val, h.len, h.kept.trans (IntsKept.of_below hb), h.moved.trans (Moved.of_below hb h.wide.lt), h.below.trans (hb.mono (by have := h.wide.hB; have := h.wide.lt; omega))⟩
theorem WPuts.start {base M B : Nat} {W0 : World} {L : List Ent} {vp vc : Value} (h : WideAt base M W0 B vp vc L) (hr : Rising (absL L)) {f : Int → Int} (hf : ∀ x, f x = 0) (c : Nat) : WPuts base M B W0 W0 f c L vp vc L :=
  ⟨h, hr, fun x => by rw [hf]; omega, by omega, IntsKept.refl _, Moved.refl _ _, Below.refl _ _⟩
/-- Number, in these words. -/
theorem Number_by (base M B n0 : Nat) (z : Int) (cv vp vc : Value) (L : List Ent) (w : World) (hW : WideAt base M w B vp vc L) (hc : RatioAt w cv (lowN M z) (lowD M z)) (hM : 0 < M) (hM6 : M ≤ 4096) (hr : Rising (absL L)) (hlen : L.length ≤ 90000) (hn1 : 1 ≤ n0) (hn6 : n0 ≤ 1000000) (hb : ∀ x, -1000000000000000 ≤ atL (absL L) x ∧ atL (absL L) x ≤ 1000000000000000) (hz : -1000000 ≤ z ∧ z ≤ 1000000) :
    Calls Tryz.prog 33 #[.pointer (some ⟨B, 0, none⟩), .int .i64 n0, cv] w fun e w' => e = .returned (.tuple #[]) ∧ ∃ vp' vc' L', WPuts base M B w w' (fun x => z * multI x n0) 1 L vp' vc' L' := by
  have p3 : (1000000 : Nat) ^ 3 = 1000000000000000000 := by decide
  refine (Number_any base M B n0 z cv vp vc L 3 w hW hc hM hr hlen hn1 hn6 (fun x => by rw [p3]; have := hb x; omega) (by rw [p3]; omega) (by decide)).mono ?_
  rintro e w' ⟨rfl, vp', vc', L', k, h⟩
  have hk := h.cnt_le (by decide) hn6
  refine ⟨rfl, vp', vc', L', h.wide, h.rise, fun x => ?_, by have := h.len; omega, h.kept, h.moved, h.below⟩
  have := h.val x
  rw [multI_one, Int.mul_zero, Int.add_zero] at this
  exact this

/-- A fraction in a box. -/
structure RBox (W0 W : World) (B : Nat) (n : Int) (d : Nat) : Prop where
  below : Below W0.heap.size W0 W
  hB : W0.heap.size ≤ B
  box : ∃ s ad l cap ad' l' cap', W.cell? ⟨B, 0, none⟩ = some (.bool s) ∧ W.cell? ⟨B, 1, none⟩ = some (.slice ad l cap) ∧ W.cell? ⟨B, 2, none⟩ = some (.slice ad' l' cap') ∧ RatioAt W (.agg #[.bool s, .slice ad l cap, .slice ad' l' cap']) n d
theorem rBox_late {W0 W : World} {n : Int} {d : Nat} {s : Bool} {ad ad' : Option Addr} {l cap l' cap' : Nat} (h : Below W0.heap.size W0 W) (hr : RatioAt W (.agg #[.bool s, .slice ad l cap, .slice ad' l' cap']) n d) : RBox W0 (W.alloc (.cells #[.bool s, .slice ad l cap, .slice ad' l' cap'] 57)) W.heap.size n d :=
  ⟨more_below h _, h.size, s, ad, l, cap, ad', l', cap', by simp, by simp, by simp, hr.later (new_below _ _)⟩
theorem rBox_soon {W0 W : World} {B : Nat} {n : Int} {d : Nat} {s : Bool} {ad ad' : Option Addr} {l cap l' cap' : Nat} (h : Below W0.heap.size W0 W) (hr : RatioAt W (.agg #[.bool s, .slice ad l cap, .slice ad' l' cap']) n d) (hn : NewBox3 W0 W B) : RBox W0 (((W.setCell ⟨B, 0, none⟩ (.bool s)).setCell ⟨B, 1, none⟩ (.slice ad l cap)).setCell ⟨B, 2, none⟩ (.slice ad' l' cap')) B n d := by
  refine ⟨below_set3 h hn.hB _ _ _, hn.hB, s, ad, l, cap, ad', l', cap', ?_, ?_, ?_, ?_⟩
  · rw [World.cell?_setCell_other _ _ _ _ (by simp), World.cell?_setCell_other _ _ _ _ (by simp)]; exact World.cell?_setCell_same _ _ _ hn.c0
  · rw [World.cell?_setCell_other _ _ _ _ (by simp)]; exact World.cell?_setCell_same _ _ _ (by rw [World.cell?_setCell_other _ _ _ _ (by simp)]; exact hn.c1)
  · exact World.cell?_setCell_same _ _ _ (by rw [World.cell?_setCell_other _ _ _ _ (by simp), World.cell?_setCell_other _ _ _ _ (by simp)]; exact hn.c2)
  · obtain ⟨u, q, hv, hu, hq⟩ := hr
    have hv' := hv
    simp only [Value.agg.injEq, Array.mk.injEq, List.cons.injEq, and_true] at hv'
    obtain ⟨_, rfl, rfl⟩ := hv'
    exact ⟨_, _, hv, hu.set3 hn.no hn.c0 hn.c1, hq.set3 hn.no hn.c0 hn.c1⟩
theorem RatioOf_low (x : Int) (n : Nat) (w : World) (h0 : -1000000 ≤ x ∧ x ≤ 1000000) (hd : 0 < n) (hd1 : n ≤ 1000000) :
    Calls Tryz.prog 34 #[.int .i64 x, .int .i64 n] w fun e w' => ∃ r, e = .returned r ∧ RatioAt w' r (lowN n x) (lowD n x) ∧ Below w.heap.size w w' := RatioOf_any x n w (by omega) (by omega) hd (by omega)
theorem low_lt {M : Nat} (hM : 0 < M) {z : Int} (hM6 : M ≤ 4096) (hz : -1000000 ≤ z ∧ z ≤ 1000000) : (lowN M z).natAbs < 1000000 ^ 3 ∧ lowD M z < 1000000 ^ 3 := by
  have p3 : (1000000 : Nat) ^ 3 = 1000000000000000000 := by decide
  have h1 := lowN_le hM z
  have h2 := lowD_le M z
  rw [p3]
  omega
/-- A chance of a chance. -/
theorem Times_low (M n : Nat) (x : Int) (c r : Value) (w : World) (hc : RatioAt w c (lowN M n) (lowD M n)) (hr : RatioAt w r (lowN n x) (lowD n x)) (hM : 0 < M) (hM6 : M ≤ 4096) (hn : 0 < n) (hn6 : n ≤ 4096) (hx : -1000000 ≤ x ∧ x ≤ 1000000) :
    Calls Tryz.prog 60 #[c, r] w fun e w' => ∃ r', e = .returned r' ∧ RatioAt w' r' (lowN M x) (lowD M x) ∧ Below w.heap.size w w' := by
  have l1 := low_lt hM (z := (n : Int)) hM6 (by omega)
  have l2 := low_lt hn (z := x) hn6 hx
  have h := Times_ratio c r _ _ _ _ 3 w hc hr (lowD_pos hM _) (lowD_pos hn _) l1.1 l2.1 l1.2 l2.2 (by decide)
  have e := low_times hM hn x
  rw [e.1, e.2] at h
  exact h
end Go.Proofs.YtklhfagcembigaaGreatDoor

/- The document's Entropy of a Wide. -/
namespace Go.Proofs.YtklhfagcembigaaGreatDoor
open Go.RowKit

theorem RowAt.kept {w w' : World} {b o n : Nat} {z : Nat → Int} (h : RowAt w b o n z) (hk : IntsKept w w') : RowAt w' b o n z := fun i hi => hk _ _ (h i hi)

end Go.Proofs.YtklhfagcembigaaGreatDoor

/- The document's Told of a sum that has a form; EntropyOf. -/
namespace Go.Proofs.YtklhfagcembigaaGreatDoor
open Go.RowKit

theorem row_form {w : World} {base : Nat} {t : TypeId} {sz : Nat} {v : Value} {n : Nat} {xs : List Value} (h : w.ownsRow base t sz v n xs) : ∃ ad cap, v = .slice ad n cap := by
  rcases h.2 with ⟨rfl, h0⟩ | ⟨gg, cap', cur', rfl, _⟩
  · exact ⟨none, 0, by rw [h0]⟩
  · exact ⟨_, _, rfl⟩
theorem WTold_by (base M B : Nat) (vp vc : Value) (L : List Ent) (f : Int → Int) (w : World) (hW : WideAt base M w B vp vc L) (hr : Rising (absL L)) (hM : 0 < M) (hM6 : M ≤ 4096) (hlen : L.length ≤ 90000) (hv : ∀ x, atL (absL L) x = f x) (hf : ∀ x, -1000000000 ≤ f x ∧ f x ≤ 1000000000) :
    Calls Tryz.prog 35 #[.pointer (some ⟨B, 0, none⟩)] w fun e w' => ∃ dn v, e = .returned (.tuple #[.agg #[.int .i64 dn, v], .int .i64 0]) ∧ LogBy w.heap.size M f w' dn v ∧ Below w.heap.size w w' := by
  have p3 : (1000000 : Nat) ^ 3 = 1000000000000000000 := by decide
  obtain ⟨adp, capp, rfl⟩ := row_form hW.P
  obtain ⟨adc, capc, rfl⟩ := row_form hW.C
  have hzs : (absL L).map Prod.snd = zsOf L := by simp [absL, zsOf]
  have hz : ∀ e ∈ L, e.z.natAbs ≤ 1000000000 := fun e he => by
    have h0 := atL_mem hr (absL_mem he)
    simp only at h0
    have h1 := hf (e.p : Int)
    rw [← hv, h0] at h1
    omega
  have hfit : FitsW M (gList M (zsOf L)) L := ⟨Nat.le_trans (Nat.div_le_self _ _) (by omega), fun e he => by
    rw [Int.natAbs_tdiv]
    exact Nat.le_trans (Nat.div_le_self _ _) (by have := hz e he; omega)⟩
  refine (WTold_any base M B adp adc capp capc L 3 (gList M (zsOf L)) true w hW hM (by omega) (fun e he => by rw [p3]; have := hz e he; omega) (by rw [p3]; omega) (by decide) (by decide) rfl ⟨fun _ => hfit, fun _ => rfl⟩).mono ?_
  rintro e w' ⟨⟨_, v, rfl, hrow⟩ | ⟨h0, _⟩, hb⟩
  · refine ⟨_, v, rfl, ⟨absL L, hr, hv, by rw [absL_length]; exact hlen, by rw [hzs], ?_⟩, hb⟩
    rw [hzs, ← flat_cells]
    exact hrow
  · cases h0

end Go.Proofs.YtklhfagcembigaaGreatDoor

/- The law's closed fact: of a fair coin the entropy is 1. -/
namespace Go.Proofs.YtklhfagcembigaaGreatDoor
open Go.RowKit Go.Maps

theorem pr_two' : Pr 2 := (isPr_iff 2).1 (by decide)
theorem coin_val (x : Int) : sumN (entV (fun _ => 3) 6 x) 2 = atL [((2 : Int), (6 : Int))] x := by
  have h := multI_step x (n := 6) (d := 2) (by decide) pr_two' (by decide)
  have e : 6 / 2 = 3 := by decide
  rw [e] at h
  show 0 + (3 * multI x 6 - 3 * multI x (3 : Int).toNat) + (3 * multI x 6 - 3 * multI x (3 : Int).toNat) = if (2 : Int) = x then 6 else 0
  have e3 : (3 : Int).toNat = 3 := rfl
  rw [e3, h]
  rw [show ((2 : Nat) : Int) = 2 from rfl]
  by_cases hx : x = 2
  · subst hx; simp; omega
  · rw [if_neg hx, if_neg (fun e => hx e.symm)]; omega
theorem coin_list {base : Nat} {w : World} {dn : Int} {v : Value} (h : LogBy base 6 (fun x => sumN (entV (fun _ => 3) 6 x) 2) w dn v) : dn = 1 ∧ OwnAt w v 1 (fun _ => 2) (fun _ => 1) := by
  obtain ⟨l, hr, hv, _, hd, hl⟩ := h.list
  have he : ∀ x, atL l x = atL [((2 : Int), (6 : Int))] x := fun x => by rw [hv, coin_val]
  have hr' : Rising [((2 : Int), (6 : Int))] := List.pairwise_singleton _ _
  rw [gList_same hr hr' he, over_same hr hr' he] at hl
  rw [gList_same hr hr' he] at hd
  have e1 : overL (gList 6 (List.map Prod.snd [((2 : Int), (6 : Int))])) [((2 : Int), (6 : Int))] = [(2, 1)] := by decide
  rw [e1] at hl
  refine ⟨by rw [hd]; decide, ?_⟩
  rcases hl with ⟨_, h0⟩ | ⟨g, cap, h1, h2⟩
  · cases h0
  · refine Or.inr ⟨g, cap, h1, fun k hk => ?_⟩
    obtain rfl : k = 0 := by omega
    exact h2 0 (by decide)

end Go.Proofs.YtklhfagcembigaaGreatDoor

/- isLog at errors. -/
namespace Go.Proofs.YtklhfagcembigaaGreatDoor
open Go.RowKit

theorem isLog_bad (a : Nat → Addr) (c : Nat) (hc : c ≠ 0) (hc8 : c ≤ 8) (d2 : Int) (ad2 : Option Addr) (m2 cap2 : Nat) (w : World) (h : Errs w a) :
    Calls Tryz.prog 12 #[.agg #[.int .i64 0, .slice none 0 0], errV a c, .agg #[.int .i64 d2, .slice ad2 m2 cap2], .int .i64 (c : Int)] w fun e w' => e = .returned (.bool true) ∧ Below w.heap.size w w' := by
  have h1 := isLog_err a (c - 1) (by omega) d2 ad2 m2 cap2 w h
  rw [errV_pos a hc]
  have e : ((c - 1 : Nat) : Int) + 1 = (c : Int) := by omega
  rw [e] at h1
  exact h1
/-- A result's box behind calls. -/
theorem box_past2 {w w1 : World} {x y : Value} {t : TypeId} (hb : Below (w.alloc (.cells #[x, y] t)).heap.size (w.alloc (.cells #[x, y] t)) w1) : w1.cell? ⟨w.heap.size, 0, none⟩ = some x ∧ w1.cell? ⟨w.heap.size, 1, none⟩ = some y ∧ w1.frozen? ⟨w.heap.size, 0, none⟩ = false ∧ w1.frozen? ⟨w.heap.size, 1, none⟩ = false := res_past hb

end Go.Proofs.YtklhfagcembigaaGreatDoor

/- dist.Joint; the law DistJoint. -/
namespace Go.Proofs.YtklhfagcembigaaGreatDoor
open Go.RowKit Go.Maps

theorem tabErr_ok {R : Nat} {ns : Nat → Nat} {zs : Nat → Nat → Int} (h : tabErr R ns zs = 0) : R ≤ 16 ∧ longB ns R = false ∧ unevenB ns R = false ∧ OkW (atF (flatL ns zs R)) (flatL ns zs R).length ∧ (flatL ns zs R).length ≤ 256 := by
  unfold tabErr at h
  by_cases h1 : 16 < R
  · rw [if_pos h1] at h; cases h
  rw [if_neg h1] at h
  cases h2 : longB ns R with
  | true => rw [h2, if_pos rfl] at h; cases h
  | false =>
    rw [h2, if_neg (by simp)] at h
    cases h3 : unevenB ns R with
    | true => rw [h3, if_pos rfl] at h; cases h
    | false =>
      rw [h3, if_neg (by simp)] at h
      exact ⟨by omega, rfl, rfl, listErr_ok h, by rw [flatL_length]; exact sumT_small h1 h2⟩
theorem tabErr_le (R : Nat) (ns : Nat → Nat) (zs : Nat → Nat → Int) : tabErr R ns zs ≤ 3 := by
  unfold tabErr listErr
  repeat (split; omega)
  omega
theorem row_some {w : World} {base : Nat} {v : Value} {n : Nat} {l : List Int} (h : w.ownsRow base 3 1 v n (cellL l)) (hl : l.length = n) (h0 : 0 < n) : ∃ g cap, v = .slice (some ⟨g, 0, none⟩) n cap ∧ RowAt w g 0 n (atF l) := by
  subst hl
  rcases numsAt_row h with ⟨_, _, _, h1⟩ | ⟨b, o, cap, hv, _, hr⟩
  · omega
  · rcases h.2 with ⟨hv', _⟩ | ⟨g, cap', cur, hv', _⟩
    · rw [hv] at hv'; simp at hv'
    · rw [hv] at hv'
      simp only [Value.slice.injEq, Option.some.injEq, Addr.mk.injEq, and_true, true_and] at hv'
      obtain ⟨⟨rfl, rfl⟩, rfl⟩ := hv'
      exact ⟨b, cap, hv, hr⟩

end Go.Proofs.YtklhfagcembigaaGreatDoor

/- Right tables: rows, columns, all. -/
namespace Go.Proofs.YtklhfagcembigaaGreatDoor

def lsum : List Int → Int
  | [] => 0
  | x :: r => x + lsum r
theorem lsum_append : ∀ l r : List Int, lsum (l ++ r) = lsum l + lsum r
  | [], r => by simp [lsum]
  | x :: l, r => by simp only [List.cons_append, lsum, lsum_append l r]; omega
theorem lsum_row (z : Nat → Int) : ∀ n, lsum (rowL z n) = sumN z n
  | 0 => rfl
  | n + 1 => by
    have ih := lsum_row z n
    unfold rowL at ih ⊢
    rw [List.range_succ, List.map_append, lsum_append, ih]
    simp [lsum, sumN]
theorem rowL_atF (l : List Int) : rowL (atF l) l.length = l := by
  refine List.ext_getElem (by simp [rowL]) (fun i h1 h2 => ?_)
  simp [rowL, atF, List.getD, List.getElem?_eq_getElem h2]
theorem sumN_list (l : List Int) : sumN (atF l) l.length = lsum l := by rw [← lsum_row, rowL_atF]
/-- A function's sum over a list, as over its places. -/
theorem sumN_map (g : Int → Int) (l : List Int) : sumN (fun i => g (atF l i)) l.length = lsum (l.map g) := by
  have h : rowL (fun i => g (atF l i)) l.length = l.map g := by
    refine List.ext_getElem (by simp [rowL]) (fun i h1 h2 => ?_)
    have h3 : i < l.length := by simpa using h2
    simp [rowL, atF, List.getD, List.getElem?_eq_getElem h3]
  rw [← lsum_row, h]
theorem lsum_flat (g : Int → Int) (ns : Nat → Nat) (zs : Nat → Nat → Int) : ∀ k, lsum ((flatL ns zs k).map g) = sumN (fun i => sumN (fun j => g (zs i j)) (ns i)) k
  | 0 => rfl
  | k + 1 => by
    show lsum ((flatL ns zs k ++ rowL (zs k) (ns k)).map g) = _
    rw [List.map_append, lsum_append, lsum_flat g ns zs k]
    have : (rowL (zs k) (ns k)).map g = rowL (fun j => g (zs k j)) (ns k) := by simp [rowL]
    rw [this, lsum_row]
    rfl
theorem mem_flat {ns : Nat → Nat} {zs : Nat → Nat → Int} : ∀ {k i j : Nat}, i < k → j < ns i → zs i j ∈ flatL ns zs k
  | k + 1, i, j, hi, hj => by
    show zs i j ∈ flatL ns zs k ++ rowL (zs k) (ns k)
    rw [List.mem_append]
    rcases Nat.lt_or_ge i k with h | h
    · exact Or.inl (mem_flat h hj)
    · obtain rfl : i = k := by omega
      exact Or.inr (List.mem_map.2 ⟨j, List.mem_range.2 hj, rfl⟩)
/-- A right table. -/
structure OkT (R : Nat) (ns : Nat → Nat) (zs : Nat → Nat → Int) (N : Nat) : Prop where
  r0 : 0 < R
  r16 : R ≤ 16
  c0 : 0 < ns 0
  c16 : ns 0 ≤ 16
  even : ∀ i, i < R → ns i = ns 0
  nn : ∀ i, i < R → ∀ j, j < ns i → 0 ≤ zs i j
  tot : sumN (fun i => sumN (zs i) (ns i)) R = N
  n1 : 1 ≤ N
  n6 : N ≤ 4096
theorem not_uneven {ns : Nat → Nat} {n i : Nat} (h : unevenB ns n = false) (hi : i < n) : ns i = ns 0 := by
  by_cases h' : ns i = ns 0
  · exact h'
  · rw [unevenB_mono hi h'] at h; cases h
theorem okT_of {R : Nat} {ns : Nat → Nat} {zs : Nat → Nat → Int} (h1 : R ≤ 16) (h2 : longB ns R = false) (h3 : unevenB ns R = false) (h4 : OkW (atF (flatL ns zs R)) (flatL ns zs R).length) : ∃ N, OkT R ns zs N ∧ sumN (atF (flatL ns zs R)) (flatL ns zs R).length = N := by
  obtain ⟨N, hN⟩ := Int.eq_ofNat_of_zero_le (Int.le_of_lt h4.pos)
  have hp := h4.posN
  rw [flatL_length] at hp
  have hr0 : 0 < R := Nat.pos_of_ne_zero (fun e => by subst e; simp [sumT] at hp)
  have hc0 : 0 < ns 0 := Nat.pos_of_ne_zero (fun e => by
    have := sumT_le (ns := ns) (B := 0) (n := R) (fun i hi => by have := not_uneven h3 hi; omega)
    omega)
  have h5 := h4.pos
  have h6 := h4.le
  have hsum : sumN (atF (flatL ns zs R)) (flatL ns zs R).length = sumN (fun i => sumN (zs i) (ns i)) R := by
    rw [sumN_list]
    have := lsum_flat id ns zs R
    simpa using this
  refine ⟨N, ⟨hr0, h1, hc0, not_long h2 0 hr0, fun i hi => not_uneven h3 hi, fun i hi j hj => ?_, by rw [← hsum]; exact hN, by omega, by omega⟩, hN⟩
  obtain ⟨q, hq⟩ := List.getElem?_of_mem (mem_flat (zs := zs) hi hj)
  have hql : q < (flatL ns zs R).length := by
    rcases Nat.lt_or_ge q (flatL ns zs R).length with h' | h'
    · exact h'
    · rw [List.getElem?_eq_none h'] at hq; cases hq
  have := h4.nn q hql
  unfold atF at this
  rw [List.getD_eq_getElem?_getD, hq] at this
  exact this
theorem OkT.row {R : Nat} {ns : Nat → Nat} {zs : Nat → Nat → Int} {N : Nat} (h : OkT R ns zs N) {i : Nat} (hi : i < R) : 0 ≤ sumN (zs i) (ns i) ∧ sumN (zs i) (ns i) ≤ N := by
  have h1 := sumN_nonneg (h.nn i hi)
  have h2 := sumN_ge (z := fun i => sumN (zs i) (ns i)) (n := R) (fun k hk => sumN_nonneg (h.nn k hk)) hi
  rw [h.tot] at h2
  exact ⟨h1, h2⟩
theorem OkT.cell {R : Nat} {ns : Nat → Nat} {zs : Nat → Nat → Int} {N : Nat} (h : OkT R ns zs N) {i j : Nat} (hi : i < R) (hj : j < ns i) : 0 ≤ zs i j ∧ zs i j ≤ 4096 := by
  have h1 := h.nn i hi j hj
  have h2 := sumN_ge (h.nn i hi) hj
  have h3 := (h.row hi).2
  have h4 := h.n6
  exact ⟨h1, by omega⟩
theorem OkT.part {R : Nat} {ns : Nat → Nat} {zs : Nat → Nat → Int} {N : Nat} (h : OkT R ns zs N) {i k : Nat} (hi : i < R) (hk : k ≤ ns i) : 0 ≤ sumN (zs i) k ∧ sumN (zs i) k ≤ 4096 := by
  have h1 := sumN_nonneg (z := zs i) (n := k) (fun j hj => h.nn i hi j (by omega))
  have h2 := sumN_mono (h.nn i hi) hk
  have h3 := (h.row hi).2
  have h4 := h.n6
  exact ⟨h1, by omega⟩
def colV (zs : Nat → Nat → Int) (k j : Nat) : Int := sumN (fun i => zs i j) k
theorem OkT.col {R : Nat} {ns : Nat → Nat} {zs : Nat → Nat → Int} {N : Nat} (h : OkT R ns zs N) {k j : Nat} (hk : k ≤ R) (hj : j < ns 0) : 0 ≤ colV zs k j ∧ colV zs k j ≤ 4096 := by
  have h1 : 0 ≤ colV zs k j := sumN_nonneg (fun i hi => h.nn i (by omega) j (by rw [h.even i (by omega)]; exact hj))
  have h2 : colV zs k j ≤ sumN (fun i => sumN (zs i) (ns i)) k := sumN_le (fun i hi => sumN_ge (h.nn i (by omega)) (by rw [h.even i (by omega)]; exact hj))
  have h3 := sumN_mono (z := fun i => sumN (zs i) (ns i)) (k := k) (n := R) (fun i hi => sumN_nonneg (h.nn i hi)) hk
  have h4 := h.tot
  have h5 := h.n6
  exact ⟨h1, by omega⟩
end Go.Proofs.YtklhfagcembigaaGreatDoor

/- A row of numbers that is made and filled. -/
namespace Go.Proofs.YtklhfagcembigaaGreatDoor
open Go.RowKit

/-- The row that is filled. -/
structure Fills (w wr : World) (g T : Nat) (f : Nat → Int) : Prop where
  row : RowAt wr g 0 T f
  fz : ∀ i, i < T → wr.frozen? ⟨g, 0 + i, none⟩ = false
  below : Below w.heap.size w wr
  hg : w.heap.size ≤ g
theorem Fills.set {w wr : World} {g T : Nat} {f : Nat → Int} (h : Fills w wr g T f) {j : Nat} (hj : j < T) (x : Int) {f' : Nat → Int} (hf : ∀ i, i < T → f' i = if i = j then x else f i) : Fills w (wr.setCell ⟨g, j, none⟩ (.int .i64 x)) g T f' := by
  refine ⟨fun i hi => ?_, fun i hi => ?_, h.below.setCell h.hg _, h.hg⟩
  · rw [hf i hi]
    by_cases hij : i = j
    · subst hij
      rw [if_pos rfl, Nat.zero_add]
      exact World.cell?_setCell_same _ _ _ (by have := h.row i hi; rwa [Nat.zero_add] at this)
    · rw [if_neg hij, World.cell?_setCell_other _ _ _ _ (fun e => hij (by have := congrArg Addr.off e; simp at this; omega))]
      exact h.row i hi
  · rw [World.frozen?_setCell]
    exact h.fz i hi
theorem Fills.drew {w wr : World} {g T : Nat} {f : Nat → Int} (h : Fills w wr g T f) : Fills w wr.drew g T f := ⟨h.row, h.fz, h.below.drew, h.hg⟩
theorem fills_made {w w2 : World} {g n : Nat} {t : TypeId} {xs : List Value} (h : w2.ownsRow w.heap.size t 1 (.slice (some ⟨g, 0, none⟩) n n) n xs) (hx : ∀ i, i < n → xs[i]? = some (.int .i64 0)) (hg : w.grownBy w2 none) : Fills w w2 g n (fun _ => 0) := by
  obtain ⟨hl, hr⟩ := h
  rcases hr with ⟨hx, _⟩ | ⟨g', cap', cur, hv, hb, hh, _, _, hs, ht⟩
  · cases hx
  · obtain ⟨rfl, rfl⟩ : g = g' ∧ n = cap' := by simpa using hv
    refine ⟨fun i hi => ?_, fun i hi => ?_, (Below.refl _ _).grown hg (Nat.le_refl _) (fun k hk => by cases hk), hb⟩
    · rw [← hx i hi, ← ht, List.getElem?_take_of_lt (by omega)]
      simp [World.cell?, hh]
    · simp [World.frozen?, hh]
theorem made_zero (n i : Nat) (hi : i < n) : (madeCells (Value.int IntKind.i64 0).cells (n * 1)).toList[i]? = some (.int .i64 0) := by
  simp [madeCells, hi, Nat.mod_one, Value.cells]
end Go.Proofs.YtklhfagcembigaaGreatDoor

/- Rows' and columns' sums: the document's and the program's. -/
namespace Go.Proofs.YtklhfagcembigaaGreatDoor
open Go.RowKit

def rowSum (ns : Nat → Nat) (zs : Nat → Nat → Int) (i : Nat) : Int := sumN (zs i) (ns i)
/-- A right table's rows, as the walk reads them. -/
theorem tab_rows {w : World} {ad : Option Addr} {R cap : Nat} {vs : Nat → Value} {ns : Nat → Nat} {zs : Nat → Nat → Int} {N : Nat} (h : TabAt w (.slice ad R cap) R vs ns zs) (hk : OkT R ns zs N) : ∃ b o, ad = some ⟨b, o, none⟩ ∧ ∀ W, Below w.heap.size w W → ∀ i, i < R → ∃ b1 o1 cap1, W.cell? ⟨b, o + i, none⟩ = some (.slice (some ⟨b1, o1, none⟩) (ns 0) cap1) ∧ RowAt W b1 o1 (ns 0) (zs i) := by
  rcases h with ⟨_, _, _, h0⟩ | ⟨b, o, c, hv, _, hr⟩
  · have := hk.r0; omega
  · simp only [Value.slice.injEq, true_and] at hv
    obtain ⟨rfl, rfl⟩ := hv
    refine ⟨b, o, rfl, fun W hb i hi => ?_⟩
    obtain ⟨h1, h2⟩ := hr i hi
    have he := hk.even i hi
    have hc := hk.c0
    rcases h2.later hb with ⟨_, _, _, h3⟩ | ⟨b1, o1, c1, hv1, _, hr1⟩
    · omega
    · rw [he] at hv1 hr1
      exact ⟨b1, o1, c1, by rw [hb.cell (cell_lt h1), h1, hv1], hr1⟩

end Go.Proofs.YtklhfagcembigaaGreatDoor

/- dist.columnSums, Rows, Columns. -/
namespace Go.Proofs.YtklhfagcembigaaGreatDoor
open Go.RowKit

theorem tabErr_okT {R : Nat} {ns : Nat → Nat} {zs : Nat → Nat → Int} (h : tabErr R ns zs = 0) : ∃ N, OkT R ns zs N ∧ sumN (atF (flatL ns zs R)) (flatL ns zs R).length = N := by
  unfold tabErr at h
  by_cases h1 : 16 < R
  · rw [if_pos h1] at h; cases h
  rw [if_neg h1] at h
  cases h2 : longB ns R with
  | true => rw [h2, if_pos rfl] at h; cases h
  | false =>
    rw [h2, if_neg (by simp)] at h
    cases h3 : unevenB ns R with
    | true => rw [h3, if_pos rfl] at h; cases h
    | false =>
      rw [h3, if_neg (by simp)] at h
      exact okT_of (by omega) h2 h3 (listErr_ok h)

end Go.Proofs.YtklhfagcembigaaGreatDoor

/- Cells beside a map. -/
namespace Go.Proofs.YtklhfagcembigaaGreatDoor
open Go.RowKit Go.Maps

/-- A cell beside a map's block. -/
theorem cell_side {w w' : World} {mb nn B o : Nat} {v : Value} {D : DataW Unit} {k : TypeId} {R : Value → Option (DataW Unit × List MemPlace)} (hm : w.ownsMap Tryz.prog k R mb nn D) (hg : w.grownBy w' (some mb)) (hc : w.cell? ⟨B, o, none⟩ = some v) : w'.cell? ⟨B, o, none⟩ = some v := by
  refine cell_beside hg hc ?_
  rintro rfl
  rw [map_no_cell hm] at hc
  cases hc

end Go.Proofs.YtklhfagcembigaaGreatDoor

/- dist.Mutual: what it puts. -/
namespace Go.Proofs.YtklhfagcembigaaGreatDoor
open Go.RowKit Go.Maps

/-- What a cell puts. -/
def mutV (z : Nat → Int) (r : Int) (cv : Nat → Int) (N : Nat) (x : Int) (j : Nat) : Int := z j * multI x (z j).toNat + z j * multI x N + -(z j) * multI x r.toNat + -(z j) * multI x (cv j).toNat
theorem mutV_le {z cv : Nat → Int} {r : Int} {N j : Nat} (x : Int) (hz : 0 ≤ z j ∧ z j ≤ 4096) (hr : 0 ≤ r ∧ r ≤ 4096) (hc : 0 ≤ cv j ∧ cv j ≤ 4096) (hN : N ≤ 4096) : -400000 ≤ mutV z r cv N x j ∧ mutV z r cv N x j ≤ 400000 := by
  unfold mutV
  have h1 := mul_weight (t := z j) (by omega) (multI_small x (n := (z j).toNat) (by omega))
  have h2 := mul_weight (t := z j) (by omega) (multI_small x (n := N) (by omega))
  have h3 := mul_weight (t := -(z j)) (by omega) (multI_small x (n := r.toNat) (by omega))
  have h4 := mul_weight (t := -(z j)) (by omega) (multI_small x (n := (cv j).toNat) (by omega))
  omega
/-- A table's numbers with what its rows and columns hold together. -/
structure OkM (R C N : Nat) (zs : Nat → Nat → Int) (rv cv : Nat → Int) : Prop where
  r16 : R ≤ 16
  c16 : C ≤ 16
  n1 : 1 ≤ N
  n6 : N ≤ 4096
  z : ∀ i, i < R → ∀ j, j < C → 0 ≤ zs i j ∧ zs i j ≤ 4096
  r : ∀ i, i < R → 0 ≤ rv i ∧ rv i ≤ 4096
  c : ∀ j, j < C → 0 ≤ cv j ∧ cv j ≤ 4096
  zr : ∀ i, i < R → ∀ j, j < C → zs i j ≤ rv i ∧ zs i j ≤ cv j
theorem mutR_le {R C N : Nat} {zs : Nat → Nat → Int} {rv cv : Nat → Int} (h : OkM R C N zs rv cv) (x : Int) {i m : Nat} (hi : i < R) (hm : m ≤ C) : -6400000 ≤ sumN (mutV (zs i) (rv i) cv N x) m ∧ sumN (mutV (zs i) (rv i) cv N x) m ≤ 6400000 := by
  have h3 := sumN_bound (f := mutV (zs i) (rv i) cv N x) (B := 400000) (n := m) (fun j hj => mutV_le x (h.z i hi j (by omega)) (h.r i hi) (h.c j (by omega)) h.n6)
  have h5 := h.c16
  have : (m : Int) * 400000 ≤ 6400000 := by omega
  omega
theorem mutT_le {R C N : Nat} {zs : Nat → Nat → Int} {rv cv : Nat → Int} (h : OkM R C N zs rv cv) (x : Int) {k : Nat} (hk : k ≤ R) : -102400000 ≤ sumN (fun i => sumN (mutV (zs i) (rv i) cv N x) C) k ∧ sumN (fun i => sumN (mutV (zs i) (rv i) cv N x) C) k ≤ 102400000 := by
  have h3 := sumN_bound (f := fun i => sumN (mutV (zs i) (rv i) cv N x) C) (B := 6400000) (n := k) (fun i hi => mutR_le h x (by omega) (Nat.le_refl _))
  have h5 := h.r16
  have : (k : Int) * 6400000 ≤ 102400000 := by omega
  omega

end Go.Proofs.YtklhfagcembigaaGreatDoor
