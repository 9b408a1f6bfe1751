/- The document's Ahead. -/
import Derived.Test.YtojljmapdafmaaaDoorZeEnum
import Derived.Test.YtojljmapdafmaaaDoorBig
import Derived.BigQuiet
namespace Go.Proofs.YtojljmapdafmaaaDoor
open Go.RowKit

theorem ahead_step : ∀ (k : Nat) (x y : List Nat), k < x.length → k < y.length → (∀ i, i < k → x.getD i 0 = y.getD i 0) → aheadB x y = if x.getD k 0 = y.getD k 0 then aheadB (x.drop (k + 1)) (y.drop (k + 1)) else decide (x.getD k 0 < y.getD k 0)
  | 0, a :: x, b :: y, _, _, _ => by simp [aheadB]
  | k + 1, a :: x, b :: y, hx, hy, h => by
    have e : a = b := by simpa using h 0 (by omega)
    subst e
    have := ahead_step k x y (by simpa using hx) (by simpa using hy) (fun i hi => by simpa using h (i + 1) (by omega))
    simpa [aheadB] using this
  | 0, [], _, h, _, _ => by simp at h
  | 0, _ :: _, [], _, h, _ => by simp at h
  | _ + 1, [], _, h, _, _ => by simp at h
  | _ + 1, _ :: _, [], _, h, _ => by simp at h
theorem ahead_end : ∀ (x y : List Nat), (∀ i, i < x.length → i < y.length → x.getD i 0 = y.getD i 0) → aheadB x y = false
  | [], _, _ => rfl
  | _ :: _, [], _ => rfl
  | a :: x, b :: y, h => by
    have e : a = b := by simpa using h 0 (by simp) (by simp)
    subst e
    simp only [aheadB, if_true]
    exact ahead_end x y fun i h1 h2 => by simpa using h (i + 1) (by simpa using h1) (by simpa using h2)

set_option maxRecDepth 100000 in
set_option maxHeartbeats 4000000 in
theorem Ahead_any (v u : Value) (x y : List Nat) (w : World) (hx : IntsAt w v x) (hy : IntsAt w u y) (hl : x.length = y.length) (hn : x.length ≤ 1000) :
    Calls Tryd.prog 33 #[v, u] w fun e w' => e = .returned (.bool (aheadB x y)) ∧ Below w.heap.size w w' := by
  rcases hx with ⟨a1, c1, rfl, rfl⟩ | ⟨b1, o1, c1, rfl, _, hp, hx⟩
  · rcases hy with ⟨a2, c2, rfl, rfl⟩ | ⟨b2, o2, c2, rfl, _, hp2, hy⟩
    · go_enter Tryd.func33, Tryd.ntmps33
      go_wp2_with fail
      go_loop [5] (fun i => i = .int .i64 0) (fun _ => 0)
      case atStart => rfl
      case round =>
        subst hrel
        go_wp2_with fail
        go_ret
        exact ⟨rfl, Below.refl _ _⟩
    · simp at hl; omega
  · rcases hy with ⟨a2, c2, rfl, rfl⟩ | ⟨b2, o2, c2, rfl, _, hp2, hy⟩
    · rw [List.length_nil] at hl; omega
    · have HX := Hid.mk' hx
      have HY := Hid.mk' hy
      have HN : Hid (x.length ≤ 1000) := hn
      have hyl : ((y.length : Nat) : Int) = ((x.length : Nat) : Int) := by omega
      have HST := Hid.mk' (ahead_step (x := x) (y := y))
      have HED := Hid.mk' (ahead_end x y)
      have HL := Hid.mk' hl
      have hxI : ((x.length : Nat) : Int) ≤ 1000 := by omega
      rw [← hl]
      clear hx hy hl hp hp2 hyl
      go_enter Tryd.func33, Tryd.ntmps33
      go_wp2_with fail
      go_loopw [5] (fun i wr => ∃ k : Nat, k ≤ x.length ∧ i = .int .i64 k ∧ Hid (∀ i, i < k → x.getD i 0 = y.getD i 0) ∧ Hid (Below w.heap.size w wr)) (fun i _ => x.length - (intOf i).toNat)
      case atStart => exact ⟨0, Nat.zero_le _, rfl, fun i hi => by omega, Below.refl _ _⟩
      case round =>
        obtain ⟨k, hk, rfl, HS, HB⟩ := hrel
        have hk0 : (0 : Int) ≤ (k : Int) := by omega
        rcases Nat.lt_or_ge k x.length with h1 | h1
        · have hkn : (k : Int) < ((x.length : Nat) : Int) := by omega
          have ex : wr.cell? ⟨b1, o1 + k, none⟩ = some (.int .i64 ((x.getD k 0 : Nat) : Int)) := by rw [HB.out.cell (cell_lt (HX.out k h1))]; exact HX.out k h1
          have ey : wr.cell? ⟨b2, o2 + k, none⟩ = some (.int .i64 ((y.getD k 0 : Nat) : Int)) := by
            have h2 := HY.out k (by have := HL.out; omega)
            rw [HB.out.cell (cell_lt h2)]; exact h2
          have HA : Hid (x.getD k 0 ≠ y.getD k 0 → aheadB x y = decide (x.getD k 0 < y.getD k 0)) := fun he => by
            rw [HST.out k h1 (by have := HL.out; omega) HS.out, if_neg he]
          have HS2 : Hid (x.getD k 0 = y.getD k 0 → ∀ i, i < k + 1 → x.getD i 0 = y.getD i 0) := fun he i hi => by
            rcases Nat.lt_or_ge i k with h3 | h3
            · exact HS.out i h3
            · obtain rfl : i = k := by omega
              exact he
          generalize x.getD k 0 = X at *
          generalize y.getD k 0 = Y at *
          by_cases he : X = Y
          · have hne : ((X : Int) != (Y : Int)) = false := by simp [he]
            have HS3 := Hid.mk' (HS2.out he)
            clear he HA HS2
            go_wp2_with fail
            go_quiet (fail)
            have HBQ := Hid.mk' (below_drewN HB.out nq)
            generalize wr.drewN nq = Wq at *
            clear ex ey
            go_wp2_with fail
            exact ⟨⟨k + 1, h1, by go_num, HS3, HBQ⟩, by simp [intOf]; omega⟩
          · have hne : ((X : Int) != (Y : Int)) = true := by simp; omega
            have HA2 := Hid.mk' (HA.out he)
            have HF : Hid (decide ((X : Int) < (Y : Int)) = decide (X < Y)) := by show _ = _; rw [decide_eq_decide]; omega
            have HEX : Hid (∀ j, (wr.drewN j).cell? ⟨b1, o1 + k, none⟩ = some (.int .i64 (X : Int)) ∧ (wr.drewN j).cell? ⟨b2, o2 + k, none⟩ = some (.int .i64 (Y : Int))) := fun j => ⟨by rw [World.cell?_drewN]; exact ex, by rw [World.cell?_drewN]; exact ey⟩
            clear he HA HS2
            go_wp2_with fail
            go_quiet (fail)
            have HBQ := Hid.mk' (below_drewN HB.out nq)
            obtain ⟨ex2, ey2⟩ := HEX.out nq
            clear ex ey HEX
            generalize wr.drewN nq = Wq at *
            go_wp2_with fail
            go_quiet (fail)
            have HBR := Hid.mk' (below_drewN HBQ.out nq)
            go_wp2_with fail
            go_ret
            refine ⟨?_, HBR.out⟩
            rw [HA2.out]
            first | rfl | (rw [← HF.out]; rfl)
        · obtain rfl : k = x.length := by omega
          have HA : Hid (aheadB x y = false) := HED.out fun i h2 _ => HS.out i h2
          go_wp2_with fail
          go_ret
          exact ⟨by rw [HA.out]; rfl, HB.out⟩
end Go.Proofs.YtojljmapdafmaaaDoor
