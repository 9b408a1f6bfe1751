/- The program's Apply. -/
import Derived.Test.YtgopohbombnflaaDoorOrFill
import Derived.Test.YtgopohbombnflaaDoorHtErr
namespace Go.Proofs.YtgopohbombnflaaDoor
open Go.RowKit

/-- Moves in memory. -/
def MvAt (w : World) (v : Value) (l : List MvI) : Prop := ∃ ad cap, v = .slice ad l.length cap ∧ ∀ i m, l[i]? = some m → ∃ b o, ad = some ⟨b, o, none⟩ ∧ w.cell? ⟨b, o + i * 3, none⟩ = some (.int .i64 m.f) ∧ w.cell? ⟨b, o + i * 3 + 1, none⟩ = some (.int .i64 m.t) ∧ w.cell? ⟨b, o + i * 3 + 2, none⟩ = some (.int .i64 m.s)
theorem MvAt.later {w w' : World} {v : Value} {l : List MvI} (h : MvAt w v l) (hb : Below w.heap.size w w') : MvAt w' v l := by
  obtain ⟨ad, cap, hv, hc⟩ := h
  refine ⟨ad, cap, hv, fun i c hi => ?_⟩
  obtain ⟨b, o, ha, h0, h1, h2⟩ := hc i c hi
  refine ⟨b, o, ha, ?_, ?_, ?_⟩
  · rw [hb.cell (cell_lt h0)]; exact h0
  · rw [hb.cell (cell_lt h1)]; exact h1
  · rw [hb.cell (cell_lt h2)]; exact h2
theorem MvAt.form {w : World} {v : Value} {l : List MvI} (h : MvAt w v l) : ∃ ad cap, v = .slice ad l.length cap := let ⟨ad, cap, hv, _⟩ := h; ⟨ad, cap, hv⟩
theorem MvAt.at {w : World} {ad : Option Addr} {n cap : Nat} {l : List MvI} (h : MvAt w (.slice ad n cap) l) {i : Nat} {m : MvI} (hi : l[i]? = some m) : ∃ b o, ad = some ⟨b, o, none⟩ ∧ w.cell? ⟨b, o + i * 3, none⟩ = some (.int .i64 m.f) ∧ w.cell? ⟨b, o + i * 3 + 1, none⟩ = some (.int .i64 m.t) ∧ w.cell? ⟨b, o + i * 3 + 2, none⟩ = some (.int .i64 m.s) := by
  obtain ⟨ad', cap', hv, hc⟩ := h
  obtain ⟨rfl, _, rfl⟩ : ad = ad' ∧ n = l.length ∧ cap = cap' := by simpa using hv
  exact hc i m hi
theorem drop_mv {l : List MvI} {k : Nat} {m : MvI} (h : l[k]? = some m) : l.drop k = m :: l.drop (k + 1) := by
  obtain ⟨hi, rfl⟩ := List.getElem?_eq_some_iff.1 h
  exact List.drop_eq_getElem_cons hi

/-- What Apply says; what it makes. -/
def apE (n : Nat) (z : Nat → Int) (l : List MvI) : Nat × Int :=
  if 16 < n ∨ 4000 < l.length then (2, -1) else if noN z n = true then (3, -1) else
    match runM n z l 0 with
    | .inl i => (7, (i : Int))
    | .inr _ => (0, -1)
def apZ (n : Nat) (z : Nat → Int) (l : List MvI) : Nat → Int :=
  match runM n z l 0 with
  | .inl _ => z
  | .inr f => f
theorem apE_big {n : Nat} {z : Nat → Int} {l : List MvI} (h : 16 < n ∨ 4000 < l.length) : apE n z l = (2, -1) := if_pos h
theorem apE_none {n : Nat} {z : Nat → Int} {l : List MvI} (h : ¬ (16 < n ∨ 4000 < l.length)) (h2 : noN z n = true) : apE n z l = (3, -1) := by unfold apE; rw [if_neg h, if_pos h2]
theorem apE_go {n : Nat} {z : Nat → Int} {l : List MvI} (h : ¬ (16 < n ∨ 4000 < l.length)) (h2 : noN z n = false) : apE n z l = match runM n z l 0 with
    | .inl i => (7, (i : Int))
    | .inr _ => (0, -1) := by unfold apE; rw [if_neg h, h2, if_neg (by decide)]
theorem run_bad {n : Nat} {z f : Nat → Int} {l : List MvI} {k : Nat} {m : MvI} (h : runM n z l 0 = runM n f (l.drop k) k) (hm : l[k]? = some m) (hb : mvB n f m = true) : runM n z l 0 = .inl k := by
  rw [h, drop_mv hm]; show (if mvB n f m = true then _ else _) = _; rw [if_pos hb]
theorem run_next {n : Nat} {z f : Nat → Int} {l : List MvI} {k : Nat} {m : MvI} (h : runM n z l 0 = runM n f (l.drop k) k) (hm : l[k]? = some m) (hb : mvB n f m = false) : runM n z l 0 = runM n (mvS f m) (l.drop (k + 1)) (k + 1) := by
  rw [h, drop_mv hm]; show (if mvB n f m = true then _ else _) = _; rw [hb, if_neg (by decide)]
theorem run_end {n : Nat} {z f : Nat → Int} {l : List MvI} (h : runM n z l 0 = runM n f (l.drop l.length) l.length) : runM n z l 0 = .inr f := by
  rw [h, List.drop_length]; rfl

set_option maxRecDepth 100000 in
set_option maxHeartbeats 4000000 in
theorem Apply_any (a : Nat → Addr) (v lv : Value) (n : Nat) (z : Nat → Int) (l : List MvI) (w : World) (hE : Errs w a) (h : (v = .slice none 0 0 ∧ n = 0) ∨ ∃ g cap, v = .slice (some ⟨g, 0, none⟩) n cap ∧ RowAt w g 0 n z) (hl : MvAt w lv l) (hn : n ≤ 100000) (hll : l.length ≤ 100000) :
    Calls Tryd.prog 18 #[v, lv] w fun e w' => ∃ r x, e = .returned (.tuple #[r, x]) ∧ ErrPl a w' x (apE n z l) ∧ ((apE n z l).1 ≠ 0 → r = .slice none 0 0) ∧ ((apE n z l).1 = 0 → NumsAt w' r n (apZ n z l)) ∧ Below w.heap.size w w' := by
  obtain ⟨lad, lcap, rfl⟩ := hl.form
  have hnum : NumsAt w v n z := by
    rcases h with ⟨h1, h2⟩ | ⟨g, cap, h1, h2⟩
    · exact Or.inl ⟨_, _, h1, h2⟩
    · rcases Nat.eq_zero_or_pos n with h0 | h0
      · exact Or.inl ⟨_, _, by rw [h1, h0], h0⟩
      · exact Or.inr ⟨g, 0, cap, h1, h0, h2⟩
  have hCl := clone_own v n z w h hn
  have hCf := ContainsFunc_num v n z w hnum (by omega)
  obtain ⟨ad, cap, rfl⟩ := hnum.form
  have HL := Hid.mk' (fun (W : World) (hb : Below w.heap.size w W) => hl.later hb)
  have HE1 := Hid.mk' (fun (W : World) (hb : Below w.heap.size w W) => (hE.below hb).c1)
  have HE2 := Hid.mk' (fun (W : World) (hb : Below w.heap.size w W) => (hE.below hb).c2)
  have HE6 := Hid.mk' (fun (W : World) (hb : Below w.heap.size w W) => (hE.below hb).c6)
  clear h hnum hl hE
  by_cases h4 : 16 < n ∨ 4000 < l.length
  · have HC : Hid (apE n z l = (2, -1)) := apE_big h4
    have e1 := HE1.out w (Below.refl _ _)
    have hd : (16 : Int) < (n : Int) ∨ (¬ (16 : Int) < (n : Int) ∧ (4000 : Int) < (l.length : Int)) := by omega
    clear hCl hCf h4
    rcases hd with h1 | ⟨h1, h2⟩
    all_goals
      go_enter Tryd.func18, Tryd.ntmps18
      go_wp2_with fail
      go_quiet (fail)
      go_wp2_with fail
      go_ret2
      exact ⟨_, _, rfl, by rw [HC.out]; exact Or.inl ⟨rfl, rfl, by decide⟩, fun _ => rfl, (fun h => by rw [HC.out] at h; cases h), below_drewN (Below.refl _ _) _⟩
  · have h1 : ¬ (16 : Int) < (n : Int) := by omega
    have h2 : ¬ (4000 : Int) < (l.length : Int) := by omega
    cases hno : noN z n with
    | true =>
      have HC : Hid (apE n z l = (3, -1)) := apE_none h4 hno
      have e2 := HE2.out w (Below.refl _ _)
      rw [hno] at hCf
      clear hCl h4 hno
      go_enter Tryd.func18, Tryd.ntmps18
      go_wp2_with fail
      refine hCf.mono ?_
      clear hCf
      rintro e w2 ⟨rfl, rfl⟩
      go_wp2_with fail
      go_quiet (fail)
      go_wp2_with fail
      go_ret2
      exact ⟨_, _, rfl, by rw [HC.out]; exact Or.inl ⟨rfl, rfl, by decide⟩, fun _ => rfl, (fun h => by rw [HC.out] at h; cases h), below_drewN (Below.refl _ _) _⟩
    | false =>
      have HC := Hid.mk' (apE_go h4 hno)
      have HZ := Hid.mk' (noN_none hno)
      rw [hno] at hCf
      clear h4 hno
      go_enter Tryd.func18, Tryd.ntmps18
      go_wp2_with fail
      refine hCf.mono ?_
      clear hCf
      rintro e w1 ⟨rfl, hw1⟩
      rw [hw1]
      clear hw1
      go_wp2_with fail
      refine hCl.mono ?_
      clear hCl
      rintro e w2 ⟨v2, rfl, hf2⟩
      obtain ⟨ad2, cap2, rfl⟩ := hf2.nums.form
      have HF2 := Hid.mk' hf2
      clear hf2
      go_wp2_with fail
      go_loopw [25] (fun t wr => ∃ (k : Nat) (f : Nat → Int), k ≤ l.length ∧ t = .int .i64 (k : Int) ∧ Hid (FillV w wr (.slice ad2 n cap2) n f) ∧ Hid (∀ j, j < n → 0 ≤ f j ∧ f j ≤ 4096) ∧ Hid (runM n z l 0 = runM n f (l.drop k) k)) (fun t _ => l.length - (intOf t).toNat)
      case atStart => exact ⟨0, z, Nat.zero_le _, rfl, HF2.out, HZ.out, rfl⟩
      case round =>
        clear HF2 HZ
        obtain ⟨k, f, hk, rfl, HF, HZ, HS⟩ := hrel
        rcases Nat.lt_or_ge k l.length with h3 | h3
        · obtain ⟨m, hm⟩ : ∃ m, l[k]? = some m := ⟨_, List.getElem?_eq_getElem h3⟩
          obtain ⟨b, o, rfl, x0, x1, x2⟩ := (HL.out wr HF.out.1).at hm
          have hkI : (k : Int) < (l.length : Int) := by omega
          have hk0 : (0 : Int) ≤ (k : Int) := by omega
          have hle := HF.out.1.size
          have hbA : Below wr.heap.size wr (wr.alloc (.cells #[.int .i64 m.f, .int .i64 m.t, .int .i64 m.s] 37)) := (Below.refl _ _).alloc (Nat.le_refl _) _
          have HFA := Hid.mk' (HF.out.later hbA)
          have hft := fits_any m (.slice ad2 n cap2) n f _ HFA.out.nums HZ.out
          have HBX : Hid ((wr.alloc (.cells #[.int .i64 m.f, .int .i64 m.t, .int .i64 m.s] 37)).cell? ⟨wr.heap.size, 0, none⟩ = some (.int .i64 m.f) ∧ (wr.alloc (.cells #[.int .i64 m.f, .int .i64 m.t, .int .i64 m.s] 37)).cell? ⟨wr.heap.size, 1, none⟩ = some (.int .i64 m.t) ∧ (wr.alloc (.cells #[.int .i64 m.f, .int .i64 m.t, .int .i64 m.s] 37)).cell? ⟨wr.heap.size, 2, none⟩ = some (.int .i64 m.s)) := by refine ⟨?_, ?_, ?_⟩ <;> simp
          clear hbA
          cases hb : mvB n f m with
          | true =>
            have HR : Hid (apE n z l = (7, (k : Int))) := by show _ = _; rw [HC.out, run_bad HS.out hm hb]
            rw [hb] at hft
            clear hb hm
            obtain ⟨mf, mt, ms⟩ := m
            simp only at x0 x1 x2
            go_wp2_with fail
            refine hft.mono ?_
            clear hft
            rintro e w3 ⟨rfl, hb3⟩
            have HF3 := Hid.mk' (HFA.out.later hb3)
            have e6 := HE6.out w3 HF3.out.1
            have hle3 := HF3.out.1.size
            clear hb3
            go_wp2_with fail
            go_region
            all_goals
              go_wp2_with fail
              go_ret2
              exact ⟨_, _, rfl, by rw [HR.out]; exact Or.inr ⟨_, rfl, by simp, by simp, by simp, by simp⟩, fun _ => rfl, (fun h => by rw [HR.out] at h; cases h), by first | exact (HF3.out.1.alloc hle3 _) | exact (HF3.out.1.alloc hle3 _).drew⟩
          | false =>
            have HSN := Hid.mk' (run_next HS.out hm hb)
            have HZN := Hid.mk' (mvS_right hb HZ.out)
            obtain ⟨y1, y2, y3, y4, y5, y6, y7⟩ := mvB_no hb
            rw [hb] at hft
            clear hb hm
            obtain ⟨mf, mt, ms⟩ := m
            simp only at x0 x1 x2 y1 y2 y3 y4 y5 y6 y7
            obtain ⟨i, rfl⟩ : ∃ i : Nat, mf = (i : Int) := ⟨mf.toNat, by omega⟩
            obtain ⟨j, rfl⟩ : ∃ j : Nat, mt = (j : Int) := ⟨mt.toNat, by omega⟩
            simp only [Int.toNat_natCast] at y7
            have hiN : i < n := by omega
            have hjN : j < n := by omega
            have hij : j ≠ i := by omega
            go_wp2_with fail
            refine hft.mono ?_
            clear hft
            rintro e w3 ⟨rfl, hb3⟩
            have HF3 := Hid.mk' (HFA.out.later hb3)
            obtain ⟨g, cp, hg, hfl⟩ := HF3.out.some (by omega)
            obtain ⟨rfl, rfl⟩ : ad2 = some ⟨g, 0, none⟩ ∧ cap2 = cp := by simpa using hg
            have hgw : g ≠ wr.heap.size := by
              intro e
              rcases HF.out.some (by omega) with ⟨g', cp', hg', hfl'⟩
              have e2 : g' = g := by have := hg'.symm; simp at this; exact this.1
              have := cell_lt (hfl'.row i hiN)
              simp only at this
              omega
            have q0 : w3.cell? ⟨wr.heap.size, 0, none⟩ = some (.int .i64 (i : Int)) := by rw [hb3.cell (cell_lt HBX.out.1)]; exact HBX.out.1
            have q1 : w3.cell? ⟨wr.heap.size, 1, none⟩ = some (.int .i64 (j : Int)) := by rw [hb3.cell (cell_lt HBX.out.2.1)]; exact HBX.out.2.1
            have q2 : w3.cell? ⟨wr.heap.size, 2, none⟩ = some (.int .i64 ms) := by rw [hb3.cell (cell_lt HBX.out.2.2)]; exact HBX.out.2.2
            have a1 := HZ.out i hiN
            have a2 := HZ.out j hjN
            have r1 := hfl.row i hiN
            have r2 := hfl.row j hjN
            have f1 := hfl.fz i hiN
            have f2 := hfl.fz j hjN
            rw [Nat.zero_add] at r1 r2 f1 f2
            obtain ⟨fi, hfi⟩ : ∃ x, x = f i := ⟨_, rfl⟩
            obtain ⟨fj, hfj⟩ : ∃ x, x = f j := ⟨_, rfl⟩
            rw [← hfi] at r1 a1 y7
            rw [← hfj] at r2 a2 y7
            have F4 := hfl.set hiN (fi - ms) (f' := setF f i (fi - ms)) (fun c _ => rfl)
            have F5 := F4.set hjN (fj + ms) (f' := mvS f ⟨(i : Int), (j : Int), ms⟩) (fun c _ => by rw [hfi, hfj]; rfl)
            have hne1 : (⟨g, i, none⟩ : Addr) ≠ ⟨wr.heap.size, 1, none⟩ := fun e => hgw (congrArg Addr.block e)
            have hne2 : (⟨g, i, none⟩ : Addr) ≠ ⟨wr.heap.size, 2, none⟩ := fun e => hgw (congrArg Addr.block e)
            have s1 : (w3.setCell ⟨g, i, none⟩ (.int .i64 (fi - ms))).cell? ⟨wr.heap.size, 1, none⟩ = some (.int .i64 (j : Int)) := by rw [World.cell?_setCell_other _ _ _ _ hne1]; exact q1
            have s2 : (w3.setCell ⟨g, i, none⟩ (.int .i64 (fi - ms))).cell? ⟨wr.heap.size, 2, none⟩ = some (.int .i64 ms) := by rw [World.cell?_setCell_other _ _ _ _ hne2]; exact q2
            have s3 : (w3.setCell ⟨g, i, none⟩ (.int .i64 (fi - ms))).cell? ⟨g, j, none⟩ = some (.int .i64 fj) := by
              rw [World.cell?_setCell_other _ _ _ _ (fun e => hij (by have := congrArg Addr.off e; simp at this; omega))]; exact r2
            have s4 : (w3.setCell ⟨g, i, none⟩ (.int .i64 (fi - ms))).frozen? ⟨g, j, none⟩ = false := by rw [World.frozen?_setCell]; exact f2
            have HF5 := Hid.mk' F5
            clear hb3 hg hfl hgw F4 F5 hne1 hne2 hfi hfj HFA
            go_wp2_with fail
            go_region
            go_wp2_with fail
            go_region
            go_wp2_with fail
            exact ⟨⟨k + 1, mvS f ⟨(i : Int), (j : Int), ms⟩, h3, by go_num, ⟨HF5.out.drew.drew.below, Or.inr ⟨g, cap2, rfl, HF5.out.drew.drew⟩⟩, HZN.out, HSN.out⟩, by simp [intOf]; omega⟩
        · obtain rfl : k = l.length := by omega
          have hkI : ¬ (l.length : Int) < (l.length : Int) := by omega
          have HR0 := Hid.mk' (run_end HS.out)
          have HR : Hid (apE n z l = (0, -1)) := by show _ = _; rw [HC.out, HR0.out]
          have HV : Hid (apZ n z l = f) := by show _ = _; unfold apZ; rw [HR0.out]
          go_wp2_with fail
          go_ret2
          exact ⟨_, _, rfl, by rw [HR.out]; exact Or.inl ⟨rfl, rfl, by decide⟩, (fun h => absurd (by rw [HR.out]) h), (fun _ => by rw [HV.out]; exact HF.out.nums), HF.out.1⟩
end Go.Proofs.YtgopohbombnflaaDoor
