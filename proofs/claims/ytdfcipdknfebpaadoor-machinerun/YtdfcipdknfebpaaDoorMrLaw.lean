/- The law MachineRun. -/
import Derived.Test.YtdfcipdknfebpaaDoorMacF
import Derived.Test.YtdfcipdknfebpaaDoorErrZ
namespace Go.Proofs.YtdfcipdknfebpaaDoor
open Go.RowKit

set_option maxRecDepth 100000 in
theorem twice_any (vB vT : Value) (w : World) (hvT : w.cell? ⟨1, 0, none⟩ = some vT) (hvB : w.cell? ⟨0, 0, none⟩ = some vB) (hTi : ∃ t x, vT = .iface t x) (hBi : ∃ t x, vB = .iface t x) :
    Calls Tryd.prog 7 #[] w fun e w' => e = .returned (.bool true) ∧ Below w.heap.size w w' := by
  have hR : Calls Tryd.prog 8 #[.string ⟨#[48, 49, 49, 48, 48]⟩] w fun e w' => e = .returned (.tuple #[.string ⟨#[49, 49]⟩, .nilIface]) ∧ Below w.heap.size w w' := by
    refine (Run_any [48, 49, 49, 48, 48] vB vT w (by decide) hvT hvB hTi hBi).mono ?_
    rintro e w' ⟨s, v, rfl, hI, hB⟩
    obtain ⟨rfl, rfl⟩ := hI.good (by decide) [1, 2] rfl (fun i hi => by
      rcases i with _ | _ | _ | i
      · decide
      · decide
      · decide
      · simp at hi)
    exact ⟨rfl, hB⟩
  clear hvT hvB hTi hBi
  go_enter Tryd.func7, Tryd.ntmps7
  go_wp2_with fail
  refine hR.mono ?_
  rintro e w' ⟨rfl, hB⟩
  have HB := Hid.mk' hB
  clear hB hR
  go_wp2_with fail
  go_ret
  exact ⟨rfl, HB.out⟩

theorem run_both {a : Nat → Addr} {W V : World} {p s s' : List UInt8} {v : Value} {c : Nat} {t : Int} (h : RunIs (errV a 2) (errV a 1) W p s v) (h' : DocIs p s' c t) (hb : Below W.heap.size W V) : s = s' ∧ ErrIs a V v (c, t) := by
  by_cases h40 : 40 < p.length
  · obtain ⟨rfl, rfl⟩ := h.long h40
    obtain ⟨rfl, rfl, rfl⟩ := h'.long h40
    exact ⟨rfl, Or.inl ⟨rfl, rfl, by decide⟩⟩
  · have h40' : p.length ≤ 40 := by omega
    by_cases hk : ∃ ks, p = fla ks
    · obtain ⟨ks, hk⟩ := hk
      rcases oks_or ks with ho | ⟨i, h1, h2, h3⟩
      · obtain ⟨rfl, rfl⟩ := h.good h40' ks hk ho
        obtain ⟨rfl, rfl, rfl⟩ := h'.good h40' ks hk ho
        exact ⟨rfl, Or.inl ⟨(errV_zero a).symm, rfl, by decide⟩⟩
      · obtain ⟨rfl, pb, rfl, q0, q1⟩ := h.over h40' ks i hk h1 h2 h3
        obtain ⟨rfl, rfl, rfl⟩ := h'.over h40' ks i hk h1 h2 h3
        refine ⟨rfl, Or.inr ⟨pb, rfl, by rw [hb.cell (cell_lt q0)]; exact q0, ?_, by show 1 ≤ 2; omega, by show 2 ≤ 8; omega⟩⟩
        rw [hb.cell (cell_lt q1), q1, errV_pos a (by decide)]
    · have hk2 : ∀ ks, p ≠ fla ks := fun ks e => hk ⟨ks, e⟩
      obtain ⟨rfl, rfl⟩ := h.text h40' hk2
      obtain ⟨rfl, rfl, rfl⟩ := h'.text h40' hk2
      exact ⟨rfl, Or.inl ⟨rfl, rfl, by decide⟩⟩

set_option maxRecDepth 100000 in
set_option maxHeartbeats 2000000 in
theorem MachineRun_any (a : Nat → Addr) (p : ByteArray) (w : World) (hE : Errs w a) (hp : p.size ≤ 9223372036854775807) :
    Calls Tryd.prog 3 #[.string p] w fun e w' => e = .returned (.bool true) ∧ Below w.heap.size w w' := by
  have hT := fun (W : World) (h : Errs W a) => twice_any (errV a 2) (errV a 1) W (by rw [errV_pos a (by decide)]; exact h.c0) (by rw [errV_pos a (by decide)]; exact h.c1) (by rw [errV_pos a (by decide)]; exact ⟨_, _, rfl⟩) (by rw [errV_pos a (by decide)]; exact ⟨_, _, rfl⟩)
  have hpz : p.size = p.data.toList.length := by rw [Array.length_toList]; rfl
  by_cases h400 : 400 < p.size
  · have h4I : (400 : Int) < (p.size : Int) := by omega
    have hpI : (p.size : Int) ≤ 9223372036854775807 := by omega
    have HT := Hid.mk' (hT w hE)
    clear hT hE hpz
    go_enter Tryd.func3, Tryd.ntmps3
    go_wp2_with fail
    refine HT.out.mono ?_
    rintro e w' ⟨rfl, hB⟩
    have HB := Hid.mk' hB
    clear hB HT
    go_wp2_with fail
    go_ret
    exact ⟨rfl, HB.out⟩
  · have h4I : ¬ (400 : Int) < (p.size : Int) := by omega
    have hpI : (p.size : Int) ≤ 9223372036854775807 := by omega
    have HT := Hid.mk' (hT w hE)
    have HR : Hid (∀ W, Below w.heap.size w W → Calls Tryd.prog 8 #[.string p] W fun e w' => ∃ s v, e = .returned (.tuple #[.string (bt s), v]) ∧ RunIs (errV a 2) (errV a 1) w' p.data.toList s v ∧ Below W.heap.size W w') := fun W hb => by
      have h := hE.below hb
      have := Run_any p.data.toList (errV a 2) (errV a 1) W (by omega) (by rw [errV_pos a (by decide)]; exact h.c0) (by rw [errV_pos a (by decide)]; exact h.c1) (by rw [errV_pos a (by decide)]; exact ⟨_, _, rfl⟩) (by rw [errV_pos a (by decide)]; exact ⟨_, _, rfl⟩)
      rwa [bt_of] at this
    have HD : Hid (∀ W, Calls Tryd.prog 9 #[.string p] W fun e w' => ∃ s c t, e = .returned (.tuple #[.string (bt s), .agg #[.int .i64 ((c : Nat) : Int), .int .i64 t]]) ∧ DocIs p.data.toList s c t ∧ Below W.heap.size W w') := fun W => by
      have := RunOf_any p.data.toList W (by omega)
      rwa [bt_of] at this
    have HE : Hid (∀ W, Below w.heap.size w W → Errs W a) := fun W hb => hE.below hb
    clear hT hE hpz
    go_enter Tryd.func3, Tryd.ntmps3
    go_wp2_with fail
    refine HT.out.mono ?_
    rintro e w1 ⟨rfl, hB1⟩
    have HB1 := Hid.mk' hB1
    clear hB1 HT
    go_wp2_with fail
    refine (HR.out w1 HB1.out).mono ?_
    clear HR
    rintro e w2 ⟨s, v, rfl, hI, hB2⟩
    have HI := Hid.mk' hI
    have HB2 := Hid.mk' (below_chain HB1.out hB2)
    clear hI hB2
    go_wp2_with fail
    refine (HD.out w2).mono ?_
    clear HD
    rintro e w3 ⟨s', c, t, rfl, hI', hB3⟩
    obtain ⟨W4, hW4⟩ : ∃ W4, W4 = w3.alloc (.cells #[.int .i64 ((c : Nat) : Int), .int .i64 t] 28) := ⟨_, rfl⟩
    have hB34 : Below w3.heap.size w3 W4 := by rw [hW4]; exact (Below.refl _ _).alloc (Nat.le_refl _) _
    have hB24 : Below w2.heap.size w2 W4 := below_chain hB3 hB34
    obtain ⟨rfl, hEr⟩ := run_both HI.out hI' hB24
    have HF := Hid.mk' (faulted_is a v (c, t) W4 (HE.out W4 (below_chain HB2.out hB24)) hEr)
    have HB4 := Hid.mk' (below_chain HB2.out hB24)
    have z0 : W4.cell? ⟨w3.heap.size, 0, none⟩ = some (.int .i64 ((c : Nat) : Int)) := by rw [hW4]; simp
    have z1 : W4.cell? ⟨w3.heap.size, 1, none⟩ = some (.int .i64 t) := by rw [hW4]; simp
    clear HI hI' hB3 hB34 hB24 hEr HE
    generalize bt s = S at *
    rw [hW4] at z0 z1
    go_wp2_with fail
    rw [← hW4]
    refine HF.out.mono ?_
    rintro e w5 ⟨rfl, hB5⟩
    have HB5 := Hid.mk' (below_chain HB4.out hB5)
    clear hB5 HF
    go_wp2_with fail
    go_ret
    exact ⟨rfl, HB5.out⟩
end Go.Proofs.YtdfcipdknfebpaaDoor
