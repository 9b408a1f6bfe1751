/- Messages: which are right, in the program and in the document; errors with their places. -/
import Derived.Test.YtncgpldfenkiiaaGreatDoorWeights
import Derived.Test.YtncgpldfenkiiaaGreatDoorCode
namespace Go.Proofs.YtncgpldfenkiiaaGreatDoor
open Go.RowKit

set_option maxRecDepth 100000 in
theorem Total_nums (b o cap n : Nat) (z : Nat → Int) (w : World) (h : RowAt w b o n z) (hz : ∀ k, k ≤ n → -1000000 ≤ sumN z k ∧ sumN z k ≤ 1000000) (hzi : ∀ i, i < n → -1000000 ≤ z i ∧ z i ≤ 1000000) (hn : n ≤ 1000000) :
    Calls Tryz.prog 22 #[.slice (some ⟨b, o, none⟩) n cap] w fun e w' => e = .returned (.int .i64 (sumN z n)) ∧ w' = w := by
  have HR := Hid.mk' h
  have HZ := Hid.mk' hz
  have HZI := Hid.mk' hzi
  clear h hz hzi
  go_enter Tryz.func22, Tryz.ntmps22
  go_wp2_with fail
  go_loopw [3, 8] (fun s i wr => ∃ k : Nat, k ≤ n ∧ s = .int .i64 (sumN z k) ∧ i = .int .i64 k ∧ wr = w) (fun _ i _ => n - (intOf i).toNat)
  case atStart => exact ⟨0, Nat.zero_le _, rfl, rfl, rfl⟩
  case round =>
    obtain ⟨k, hk, rfl, rfl, rfl⟩ := hrel
    rcases Nat.lt_or_ge k n with h1 | h1
    · have hc := HR.out k h1
      have hs1 := HZ.out k hk
      have hs2 := HZ.out (k + 1) h1
      have hs3 := HZI.out k h1
      have HE : Hid (sumN z (k + 1) = sumN z k + z k) := rfl
      have hkn : (k : Int) < (n : Int) := by omega
      obtain ⟨x, hx⟩ : ∃ x, x = z k := ⟨_, rfl⟩
      rw [← hx] at hc hs3 HE
      obtain ⟨s, hs⟩ : ∃ s, s = sumN z k := ⟨_, rfl⟩
      rw [← hs] at hs1 HE ⊢
      clear hx hs
      go_wp2_with fail
      exact ⟨⟨k + 1, h1, by rw [HE.out], by go_num, trivial⟩, by simp [intOf]; omega⟩
    · obtain rfl : k = n := by omega
      go_wp2_with fail
      go_ret
      exact ⟨rfl, rfl⟩

/-- The first one of n of which something holds; n, if there is none. -/
def fstB (p : Nat → Bool) : Nat → Nat
  | 0 => 0
  | n + 1 => if fstB p n < n then fstB p n else if p n then n else n + 1
theorem fstB_le (p : Nat → Bool) : ∀ n, fstB p n ≤ n
  | 0 => Nat.le_refl _
  | n + 1 => by
    have := fstB_le p n
    unfold fstB
    split
    · omega
    · split <;> omega
theorem fstB_none {p : Nat → Bool} : ∀ {n : Nat}, fstB p n = n → ∀ i, i < n → p i = false
  | 0, _, i, hi => by omega
  | n + 1, h, i, hi => by
    unfold fstB at h
    have hle := fstB_le p n
    by_cases h1 : fstB p n < n
    · rw [if_pos h1] at h; omega
    · rw [if_neg h1] at h
      cases hp : p n with
      | true => rw [hp] at h; simp at h
      | false =>
        rcases Nat.lt_or_ge i n with h2 | h2
        · exact fstB_none (by omega) i h2
        · obtain rfl : i = n := by omega
          exact hp
theorem fstB_all {p : Nat → Bool} : ∀ {n : Nat}, (∀ i, i < n → p i = false) → fstB p n = n
  | 0, _ => rfl
  | n + 1, h => by
    unfold fstB
    rw [fstB_all (fun i hi => h i (by omega)), if_neg (Nat.lt_irrefl _), h n (by omega)]
    rfl
theorem fstB_at {p : Nat → Bool} {k : Nat} (h0 : ∀ i, i < k → p i = false) (h1 : p k = true) : ∀ {n : Nat}, k < n → fstB p n = k
  | 0, h => by omega
  | n + 1, h => by
    unfold fstB
    rcases Nat.lt_or_ge k n with h2 | h2
    · rw [fstB_at h0 h1 h2, if_pos h2]
    · obtain rfl : k = n := by omega
      rw [fstB_all h0, if_neg (Nat.lt_irrefl _), h1, if_pos rfl]
theorem fstB_is {p : Nat → Bool} : ∀ {n : Nat}, fstB p n < n → p (fstB p n) = true ∧ ∀ i, i < fstB p n → p i = false
  | 0, h => by omega
  | n + 1, h => by
    have hle := fstB_le p n
    by_cases h1 : fstB p n < n
    · have e : fstB p (n + 1) = fstB p n := by
        show (if fstB p n < n then fstB p n else if p n then n else n + 1) = _
        rw [if_pos h1]
      rw [e]; exact fstB_is h1
    · have h2 : fstB p n = n := by omega
      have e : fstB p (n + 1) = if p n then n else n + 1 := by
        show (if fstB p n < n then fstB p n else if p n then n else n + 1) = _
        rw [if_neg h1]
      rw [e] at h ⊢
      cases hp : p n with
      | false => rw [hp] at h; simp at h
      | true =>
        rw [if_pos rfl]
        exact ⟨hp, fstB_none h2⟩

/-- A symbol that is none; one whose weight is 0. -/
def badS (n : Nat) (l : Nat → Int) (i : Nat) : Bool := decide (l i < 0 ∨ (n : Int) ≤ l i)
def zerS (z : Nat → Int) (l : Nat → Int) (i : Nat) : Bool := decide (z (l i).toNat = 0)
/-- The number of a message's error, and its place. -/
def msgE (z : Nat → Int) (n m : Nat) (l : Nat → Int) : Nat × Int :=
  if 200 < m then (2, -1) else if fstB (badS n l) m < m then (3, (fstB (badS n l) m : Int)) else if fstB (zerS z l) m < m then (4, (fstB (zerS z l) m : Int)) else (0, -1)
def mesE (z : Nat → Int) (n m : Nat) (l : Nat → Int) : Nat × Int := if weightsErr z n = 0 then msgE z n m l else (weightsErr z n, -1)
/-- An error by its number and place, in memory. -/
def ErrIs (a : Nat → Addr) (w : World) (v : Value) (c : Nat × Int) : Prop :=
  (v = errV a c.1 ∧ c.2 = -1 ∧ c.1 ≤ 8) ∨ ∃ pb, v = .iface 90 (.pointer (some ⟨pb, 0, none⟩)) ∧ w.cell? ⟨pb, 0, none⟩ = some (.int .i64 c.2) ∧ w.cell? ⟨pb, 1, none⟩ = some (.iface 150 (.pointer (some (a (c.1 - 1))))) ∧ 1 ≤ c.1 ∧ c.1 ≤ 8
theorem ErrIs.later {a : Nat → Addr} {w w' : World} {v : Value} {c : Nat × Int} (h : ErrIs a w v c) (hb : Below w.heap.size w w') : ErrIs a w' v c := by
  rcases h with h | ⟨pb, h1, h2, h3, h4⟩
  · exact Or.inl h
  · exact Or.inr ⟨pb, h1, by rw [hb.cell (cell_lt h2)]; exact h2, by rw [hb.cell (cell_lt h3)]; exact h3, h4⟩

theorem NumsAt.cellAt {w : World} {v : Value} {n : Nat} {z : Nat → Int} (h : NumsAt w v n z) (h0 : 0 < n) : ∃ b o cap, v = .slice (some ⟨b, o, none⟩) n cap ∧ RowAt w b o n z := by
  rcases h with ⟨_, _, _, rfl⟩ | ⟨b, o, cap, h1, _, h2⟩
  · omega
  · exact ⟨b, o, cap, h1, h2⟩
/-- A list whose length and row are known (nothing is said of the place of an empty one). -/
theorem NumsAt.rowAt {w : World} {v : Value} {n : Nat} {z : Nat → Int} (h : NumsAt w v n z) : ∃ ad cap, v = .slice ad n cap ∧ ∀ i, i < n → ∃ b o, ad = some ⟨b, o, none⟩ ∧ w.cell? ⟨b, o + i, none⟩ = some (.int .i64 (z i)) := by
  rcases h with ⟨ad, cap, rfl, rfl⟩ | ⟨b, o, cap, rfl, _, h2⟩
  · exact ⟨ad, cap, rfl, fun i hi => by omega⟩
  · exact ⟨_, cap, rfl, fun i hi => ⟨b, o, rfl, h2 i hi⟩⟩

set_option maxRecDepth 100000 in
set_option maxHeartbeats 1000000 in
theorem checkMessage_any (a : Nat → Addr) (vw vl : Value) (n m : Nat) (z l : Nat → Int) (w : World) (hE : Errs w a) (hw : NumsAt w vw n z) (hl : NumsAt w vl m l) (hn : n ≤ 1000000) (hm : m ≤ 1000000) :
    Calls Tryz.prog 31 #[vw, vl] w fun e w' => ∃ v, e = .returned v ∧ ErrIs a w' v (mesE z n m l) ∧ Below w.heap.size w w' := by
  have hV := Valid_weights a vw n z w hE hw hn
  have HE8 : Hid (weightsErr z n ≤ 8) := Nat.le_trans (weightsErr_le z n) (by decide)
  obtain ⟨ad, cap, rfl, hrw⟩ := hw.rowAt
  obtain ⟨al, cl, rfl, hrl⟩ := hl.rowAt
  have HRW := Hid.mk' hrw
  have HRL := Hid.mk' hrl
  have e1 := hE.c1
  have e2 := hE.c2
  have e3 := hE.c3
  clear hrw hrl hw hl hE
  by_cases hok : weightsErr z n = 0
  · have HM : Hid (mesE z n m l = msgE z n m l) := by unfold mesE; rw [if_pos hok]; exact rfl
    rw [hok, errV_zero] at hV
    clear hok HE8
    by_cases h200 : 200 < m
    · have HM2 : Hid (mesE z n m l = (2, -1)) := by rw [HM.out]; unfold msgE; rw [if_pos h200]; exact rfl
      go_enter Tryz.func31, Tryz.ntmps31
      go_wp2_with fail
      refine hV.mono ?_
      clear hV
      rintro e w1 ⟨rfl, hw1⟩
      rw [hw1]
      clear hw1 w1
      go_wp2_with fail
      go_ret
      exact ⟨_, rfl, by rw [HM2.out]; exact Or.inl ⟨rfl, rfl, by decide⟩, Below.refl _ _⟩
    · have HM2 : Hid (mesE z n m l = if fstB (badS n l) m < m then (3, (fstB (badS n l) m : Int)) else if fstB (zerS z l) m < m then (4, (fstB (zerS z l) m : Int)) else (0, -1)) := by rw [HM.out]; unfold msgE; rw [if_neg h200]; exact rfl
      clear HM
      go_enter Tryz.func31, Tryz.ntmps31
      go_wp2_with fail
      refine hV.mono ?_
      clear hV
      rintro e w1 ⟨rfl, hw1⟩
      rw [hw1]
      clear hw1 w1
      go_wp2_with fail
      go_loopw [21] (fun t wr => ∃ i : Nat, i ≤ m ∧ t = .int .i64 i ∧ wr = w ∧ Hid (∀ j, j < i → badS n l j = false)) (fun t _ => m - (intOf t).toNat)
      case atStart => exact ⟨0, Nat.zero_le _, rfl, rfl, fun j hj => by omega⟩
      case round =>
        obtain ⟨i, hi, rfl, hwr, HJ⟩ := hrel
        have hwr' := hwr.symm
        clear hwr
        subst hwr'
        rcases Nat.lt_or_ge i m with h1 | h1
        · obtain ⟨b, o, rfl, hc⟩ := HRL.out i h1
          have him : (i : Int) < (m : Int) := by omega
          by_cases hb : badS n l i = true
          · have HF : Hid (mesE z n m l = (3, (i : Int))) := by rw [HM2.out, fstB_at HJ.out hb h1, if_pos h1]; exact rfl
            have hb' : l i < 0 ∨ (n : Int) ≤ l i := of_decide_eq_true hb
            clear hb
            generalize l i = x at *
            rcases hb' with hx | hx
            · go_wp2_with fail
              go_ret
              refine ⟨_, rfl, ?_, (Below.refl _ _).alloc (Nat.le_refl _) _⟩
              rw [HF.out]
              exact Or.inr ⟨_, rfl, by simp, by simp, by simp, by simp⟩
            · have hx0 : ¬ x < 0 := by omega
              go_wp2_with fail
              go_ret
              refine ⟨_, rfl, ?_, (Below.refl _ _).alloc (Nat.le_refl _) _⟩
              rw [HF.out]
              exact Or.inr ⟨_, rfl, by simp, by simp, by simp, by simp⟩
          · have hb0 : badS n l i = false := by simpa using hb
            have HJ2 : Hid (∀ j, j < i + 1 → badS n l j = false) := fun j hj => by
              rcases Nat.lt_or_ge j i with h2 | h2
              · exact HJ.out j h2
              · obtain rfl : j = i := by omega
                exact hb0
            have hb' : ¬ (l i < 0 ∨ (n : Int) ≤ l i) := of_decide_eq_false hb0
            clear hb hb0
            generalize l i = x at hc hb'
            have hx0 : ¬ x < 0 := fun h => hb' (Or.inl h)
            have hx1 : ¬ (n : Int) ≤ x := fun h => hb' (Or.inr h)
            clear hb'
            go_wp2_with fail
            exact ⟨⟨i + 1, h1, by go_num, trivial, HJ2.out⟩, by simp [intOf]; omega⟩
        · obtain rfl : i = m := by omega
          have HB : Hid (fstB (badS n l) i = i) := fstB_all HJ.out
          have HM3 : Hid (mesE z n i l = if fstB (zerS z l) i < i then (4, (fstB (zerS z l) i : Int)) else (0, -1)) := by rw [HM2.out, HB.out, if_neg (Nat.lt_irrefl _)]; exact rfl
          clear HM2 HB h1
          go_wp2_with fail
          go_loopw [42] (fun t wr => ∃ k : Nat, k ≤ i ∧ t = .int .i64 k ∧ wr = w ∧ Hid (∀ j, j < k → zerS z l j = false)) (fun t _ => i - (intOf t).toNat)
          case atStart => exact ⟨0, Nat.zero_le _, rfl, rfl, fun j hj => by omega⟩
          case round =>
            obtain ⟨k, hk, rfl, rfl, HK⟩ := hrel
            rcases Nat.lt_or_ge k i with h1 | h1
            · obtain ⟨b, o, rfl, hc⟩ := HRL.out k h1
              have him : (k : Int) < (i : Int) := by omega
              have hb' : ¬ (l k < 0 ∨ (n : Int) ≤ l k) := of_decide_eq_false (HJ.out k h1)
              have hx0 : 0 ≤ l k := by omega
              have hx1 : l k < (n : Int) := by omega
              clear hb'
              have HZ : Hid (zerS z l k = decide (z (l k).toNat = 0)) := rfl
              obtain ⟨s, hs⟩ : ∃ s : Nat, l k = (s : Int) := ⟨(l k).toNat, by omega⟩
              rw [hs] at hc hx0 hx1 HZ
              clear hs
              obtain ⟨b', o', rfl, hc'⟩ := HRW.out s (by omega)
              rw [Int.toNat_natCast] at HZ
              by_cases hz : z s = 0
              · have HF : Hid (mesE z n i l = (4, (k : Int))) := by rw [HM3.out, fstB_at HK.out (by rw [HZ.out]; exact decide_eq_true hz) h1, if_pos h1]; exact rfl
                rw [hz] at hc'
                clear hz HZ
                go_wp2_with fail
                go_ret
                refine ⟨_, rfl, ?_, (Below.refl _ _).alloc (Nat.le_refl _) _⟩
                rw [HF.out]
                exact Or.inr ⟨_, rfl, by simp, by simp, by simp, by simp⟩
              · have HK2 : Hid (∀ j, j < k + 1 → zerS z l j = false) := fun j hj => by
                  rcases Nat.lt_or_ge j k with h2 | h2
                  · exact HK.out j h2
                  · obtain rfl : j = k := by omega
                    rw [HZ.out]; exact decide_eq_false hz
                generalize z s = y at hc' hz
                have hyb : (y == 0) = false := by simpa using hz
                clear hz HZ
                go_wp2_with fail
                exact ⟨⟨k + 1, h1, by go_num, trivial, HK2.out⟩, by simp [intOf]; omega⟩
            · obtain rfl : k = i := by omega
              have HF : Hid (mesE z n k l = (0, -1)) := by rw [HM3.out, fstB_all HK.out, if_neg (Nat.lt_irrefl _)]; exact rfl
              go_wp2_with fail
              go_ret
              exact ⟨_, rfl, by rw [HF.out]; exact Or.inl ⟨rfl, rfl, by decide⟩, Below.refl _ _⟩
  · have HM : Hid (mesE z n m l = (weightsErr z n, -1)) := by unfold mesE; rw [if_neg hok]; exact rfl
    rw [errV_pos a hok] at hV
    go_enter Tryz.func31, Tryz.ntmps31
    go_wp2_with fail
    refine hV.mono ?_
    clear hV
    rintro e w1 ⟨rfl, hw1⟩
    rw [hw1]
    clear hw1 w1
    go_wp2_with fail
    go_ret
    exact ⟨_, rfl, by rw [HM.out]; exact Or.inl ⟨(errV_pos a hok).symm, rfl, HE8.out⟩, Below.refl _ _⟩
end Go.Proofs.YtncgpldfenkiiaaGreatDoor
