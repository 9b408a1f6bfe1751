/- The document's Writes. -/
import Derived.Test.YtdfcipdknfebpaaDoorMacU
namespace Go.Proofs.YtdfcipdknfebpaaDoor
open Go.RowKit

/-- Is there a program of so many bits, behind what was written, that writes x? -/
def wrt : Nat → List UInt8 → List UInt8 → Nat → Bool
  | 0, s, x, left => if left = 0 then decide (s = x) else false
  | f + 1, s, x, left => if left = 0 then decide (s = x) else if left < 2 then false else six.any fun k => if (mW k).length ≤ left then wrt f (mD k s) x (left - (mW k).length) else false
theorem wrt_zero (f : Nat) (s x : List UInt8) : wrt f s x 0 = decide (s = x) := by cases f <;> rfl
theorem wrt_one (f : Nat) (s x : List UInt8) : wrt f s x 1 = false := by cases f <;> rfl
theorem wrt_more {f left : Nat} (s x : List UInt8) (h : 2 ≤ left) : wrt (f + 1) s x left = six.any fun k => if (mW k).length ≤ left then wrt f (mD k s) x (left - (mW k).length) else false := by
  show (if left = 0 then _ else if left < 2 then _ else _) = _
  rw [if_neg (by omega), if_neg (by omega)]
theorem drewN_below {w W : World} {n : Nat} (h : Below n w W) : ∀ k, Below n w (W.drewN k)
  | 0 => h
  | k + 1 => (drewN_below h k).drew
/-- The words in a row in memory. -/
def TabW (W : World) (b : Nat) : Prop := ∀ k : Fin 6, W.cell? ⟨b, k.val, none⟩ = some (.string (bt (mW k)))
theorem TabW.later {W W' : World} {b : Nat} (h : TabW W b) (hb : Below W.heap.size W W') : TabW W' b := fun k => by rw [hb.cell (cell_lt (h k))]; exact h k
theorem tab_new (w : World) : TabW (w.alloc (.cells #[.string ⟨#[48, 48]⟩, .string ⟨#[48, 49]⟩, .string ⟨#[49, 48, 48]⟩, .string ⟨#[49, 48, 49]⟩, .string ⟨#[49, 49, 48]⟩, .string ⟨#[49, 49, 49]⟩] 9)) w.heap.size := by
  refine all6 ?_ ?_ ?_ ?_ ?_ ?_
  all_goals (rw [World.cell?_alloc_at _ _ _ _ rfl]; rfl)
theorem six_any {p : Fin 6 → Bool} (h : ∀ j : Fin 6, p j = false) : six.any p = false := by
  rw [List.any_eq_false]; intro k _; rw [h k]; simp
theorem six_has {p : Fin 6 → Bool} {k : Fin 6} (h : p k = true) : six.any p = true :=
  List.any_eq_true.2 ⟨k, all6 (P := fun k => k ∈ six) (by decide) (by decide) (by decide) (by decide) (by decide) (by decide) k, h⟩

set_option maxRecDepth 100000 in
set_option maxHeartbeats 8000000 in
theorem Writes_any : ∀ (f : Nat) (s x : List UInt8) (left : Nat) (w : World), left ≤ f → bitL s = true → (s.length + 1) * 2 ^ left ≤ 1000000 → left ≤ 1000 →
    Calls Tryd.prog 23 #[.string (bt s), .string (bt x), .int .i64 (left : Int)] w fun e w' => e = .returned (.bool (wrt f s x left)) ∧ Below w.heap.size w w' := by
  intro f
  induction f with
  | zero =>
    intro s x left w hf hb hl _
    obtain rfl : left = 0 := by omega
    have heq := bt_eqB s x
    rw [wrt_zero]
    generalize decide (s = x) = Z at *
    generalize bt s = S at *
    generalize bt x = X at *
    go_enter Tryd.func23, Tryd.ntmps23
    go_wp2_with fail
    go_ret
    exact ⟨by first | rfl | (rw [← heq]; rfl), Below.refl _ _⟩
  | succ f ih =>
    intro s x left w hf hb hl hl2
    rcases Nat.lt_or_ge left 2 with h2 | h2
    · rcases (show left = 0 ∨ left = 1 by omega) with rfl | rfl
      · have heq := bt_eqB s x
        rw [wrt_zero]
        generalize decide (s = x) = Z at *
        generalize bt s = S at *
        generalize bt x = X at *
        go_enter Tryd.func23, Tryd.ntmps23
        go_wp2_with fail
        go_ret
        exact ⟨by first | rfl | (rw [← heq]; rfl), Below.refl _ _⟩
      · rw [wrt_one]
        generalize bt s = S at *
        generalize bt x = X at *
        go_enter Tryd.func23, Tryd.ntmps23
        go_wp2_with fail
        go_ret
        exact ⟨rfl, Below.refl _ _⟩
    · rw [wrt_more s x h2]
      have hsl : s.length ≤ 1000000 := by
        have := Nat.mul_le_mul_left (s.length + 1) (Nat.one_le_two_pow (n := left))
        omega
      have HPO := Hid.mk' (fun (k : Fin 6) (W : World) => PartOf_any k s W hsl hb)
      have HWR : Hid (∀ (k : Fin 6) (W : World), (mW k).length ≤ left → Calls Tryd.prog 23 #[.string (bt (mD k s)), .string (bt x), .int .i64 ((left - (mW k).length : Nat) : Int)] W fun e w' => e = .returned (.bool (wrt f (mD k s) x (left - (mW k).length))) ∧ Below W.heap.size W w') := fun k W hk => by
        have h3 := mW_pos k
        have h4 := mD_len k s
        refine ih (mD k s) x (left - (mW k).length) W (by omega) (mD_bit k hb) ?_ (by omega)
        have h5 : 2 ^ (left - (mW k).length) ≤ 2 ^ (left - 1) := Nat.pow_le_pow_right (by decide) (by omega)
        have h6 : 2 ^ left = 2 * 2 ^ (left - 1) := by rw [← Nat.pow_succ', show (left - 1).succ = left by omega]
        calc ((mD k s).length + 1) * 2 ^ (left - (mW k).length) ≤ (2 * (s.length + 1)) * 2 ^ (left - 1) := Nat.mul_le_mul (by omega) h5
          _ = (s.length + 1) * 2 ^ left := by rw [h6, ← Nat.mul_assoc, Nat.mul_comm 2 (s.length + 1)]
          _ ≤ 1000000 := hl
      obtain ⟨cond, hcond⟩ : ∃ cond : Fin 6 → Bool, cond = fun k => if (mW k).length ≤ left then wrt f (mD k s) x (left - (mW k).length) else false := ⟨_, rfl⟩
      rw [← hcond]
      have HCY : Hid (∀ k, (mW k).length ≤ left → cond k = wrt f (mD k s) x (left - (mW k).length)) := fun k h => by rw [hcond]; exact if_pos h
      have HCN : Hid (∀ k, ¬ (mW k).length ≤ left → cond k = false) := fun k h => by rw [hcond]; exact if_neg h
      have HSA : Hid ((∀ j, cond j = false) → six.any cond = false) := six_any
      have HSH : Hid (∀ k, cond k = true → six.any cond = true) := fun k h => six_has h
      clear hcond ih hl hb hf
      obtain ⟨W1, hW1⟩ : ∃ W1, W1 = w.alloc (.cells #[.string ⟨#[48, 48]⟩, .string ⟨#[48, 49]⟩, .string ⟨#[49, 48, 48]⟩, .string ⟨#[49, 48, 49]⟩, .string ⟨#[49, 49, 48]⟩, .string ⟨#[49, 49, 49]⟩] 9) := ⟨_, rfl⟩
      have HT1 : Hid (TabW W1 w.heap.size) := by rw [hW1]; exact tab_new w
      have HB1 : Hid (Below w.heap.size w W1) := by rw [hW1]; exact (Below.refl _ _).alloc (Nat.le_refl _) _
      have hI2 : ¬ (left : Int) < 2 := by omega
      have hI0 : ¬ (left : Int) = 0 := by omega
      have hIB : ((left : Int) == 0) = false := by simpa using hI0
      have hI3 : (left : Int) ≤ 1000 := by omega
      generalize hS : bt s = S at *
      generalize hX : bt x = X at *
      clear hS hX
      go_enter Tryd.func23, Tryd.ntmps23
      go_wp2_with fail
      rw [← hW1]
      clear hW1
      go_loopw [8] (fun t wr => ∃ i : Nat, i ≤ 6 ∧ t = .int .i64 (i : Int) ∧ Hid (Below W1.heap.size W1 wr) ∧ Hid (∀ j : Fin 6, j.val < i → cond j = false)) (fun t _ => 6 - (intOf t).toNat)
      case atStart => exact ⟨0, by omega, rfl, Below.refl _ _, fun j h => by omega⟩
      case round =>
        obtain ⟨i, hi, rfl, HB, HJ⟩ := hrel
        have i0 : (0 : Int) ≤ (i : Int) := by omega
        rcases Nat.lt_or_ge i 6 with h6 | h6
        · have iI : (i : Int) < 6 := by omega
          obtain ⟨k, hk⟩ : ∃ k : Fin 6, k.val = i := ⟨⟨i, h6⟩, rfl⟩
          have x0 := (HT1.out.later HB.out) k
          rw [hk] at x0
          have hzm := bt_size (mW k)
          have hmp := mW_pos k
          have HJ2 : Hid (cond k = false → ∀ j : Fin 6, j.val < i + 1 → cond j = false) := fun hc j hj => by
            rcases Nat.lt_or_ge j.val i with h7 | h7
            · exact HJ.out j h7
            · have : j = k := Fin.ext (by omega)
              rw [this]; exact hc
          by_cases hml : (mW k).length ≤ left
          · have HPK := Hid.mk' (fun W => HPO.out k W)
            have HWK := Hid.mk' (fun W => HWR.out k W hml)
            have hcy := HCY.out k hml
            have HKX : Hid (∀ W, Below W1.heap.size W1 W → W.cell? ⟨w.heap.size, i, none⟩ = some (.string (bt (mW k)))) := fun W hb => by
              have := (HT1.out.later hb) k
              rwa [hk] at this
            have HCK := Hid.mk' (HSH.out k)
            obtain ⟨q, hq⟩ : ∃ q, q = left - (mW k).length := ⟨_, rfl⟩
            rw [← hq] at HWK hcy
            generalize hmm : (mW k).length = m at *
            have hqI : (left : Int) - (m : Int) = (q : Int) := by omega
            have hmI : (m : Int) ≤ (left : Int) := by omega
            have hm3 : (m : Int) ≤ 3 := by omega
            generalize wrt f (mD k s) x q = Z at *
            generalize bt (mW k) = M at *
            generalize bt (mD k s) = S2 at *
            clear hq hmm hml hmp HCY HCN HPO HWR
            have hcur0 : Below W1.heap.size W1 wr := HB.out
            have hcur : Below W1.heap.size W1 wr.drew := HB.out.drew
            have hwq : IntKind.i64.wrap (q : Int) = (q : Int) := by rw [IntKind.wrap_i64]; omega
            cases Z with
            | true =>
              go_wp2_with fail
              go_region_held3 (fun W => W.cell? ⟨w.heap.size, i, none⟩ = some (.string M))
                (first | exact HKX.out _ hcur0 | exact HKX.out _ hcur | exact HKX.out _ hbw5)
                (first
                  | (go_at_call 23; refine (HWK.out _).mono ?_; rintro e w5 ⟨rfl, hb5⟩; have hbw5 := below_chain hcur hb5; clear hb5)
                  | (go_at_call 19; refine (HPK.out _).mono ?_; rintro e w4 ⟨rfl, hw4⟩; rw [hw4]; clear hw4))
              go_wp2_with fail
              go_ret
              exact ⟨by rw [HCK.out hcy]; rfl, below_chain HB1.out hbw5⟩
            | false =>
              go_wp2_with fail
              go_region_held3 (fun W => W.cell? ⟨w.heap.size, i, none⟩ = some (.string M))
                (first | exact HKX.out _ hcur0 | exact HKX.out _ hcur | exact HKX.out _ hbw5)
                (first
                  | (go_at_call 23; refine (HWK.out _).mono ?_; rintro e w5 ⟨rfl, hb5⟩; have hbw5 := below_chain hcur hb5; clear hb5)
                  | (go_at_call 19; refine (HPK.out _).mono ?_; rintro e w4 ⟨rfl, hw4⟩; rw [hw4]; clear hw4))
              have HBW5 := Hid.mk' hbw5
              clear hbw5
              go_wp2_with fail
              go_roundw
              case rel => exact ⟨i + 1, by omega, by simp, HBW5, HJ2.out hcy⟩
              case measure => simp [intOf]; omega
          · have HCF := Hid.mk' (HCN.out k hml)
            generalize hmm : (mW k).length = m at *
            have hmI : ¬ (m : Int) ≤ (left : Int) := by omega
            have hmN : ¬ m ≤ left := hml
            have hmD : decide (m ≤ left) = false := decide_eq_false hml
            have hmE : decide ((m : Int) ≤ (left : Int)) = false := decide_eq_false hmI
            have hm3 : (m : Int) ≤ 3 := by omega
            generalize bt (mW k) = M at *
            clear hmm hml hmp HCY HCN HPO HWR
            go_wp2_with fail
            go_quiet (fail)
            go_wp2_with fail
            go_roundw
            case rel => exact ⟨i + 1, by omega, by simp, drewN_below HB.out _, HJ2.out HCF.out⟩
            case measure => simp [intOf]; omega
        · obtain rfl : i = 6 := by omega
          have HFA := Hid.mk' (HSA.out (fun j => HJ.out j j.isLt))
          go_wp2_with fail
          go_ret
          exact ⟨by rw [HFA.out]; rfl, below_chain HB1.out HB.out⟩
end Go.Proofs.YtdfcipdknfebpaaDoor
