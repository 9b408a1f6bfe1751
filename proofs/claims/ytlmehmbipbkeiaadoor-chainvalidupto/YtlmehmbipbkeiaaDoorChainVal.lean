/- Right chains: the document's and the program's. -/
import Derived.Test.YtlmehmbipbkeiaaDoorCodedV
import Derived.Test.YtlmehmbipbkeiaaDoorTabCopy
namespace Go.Proofs.YtlmehmbipbkeiaaDoor
open Go.RowKit

/-- A row among the first k that is of another length, below 0 or nothing; one that is too great. -/
def shapeB (n : Nat) (ns : Nat → Nat) (zs : Nat → Nat → Int) : Nat → Bool
  | 0 => false
  | k + 1 => shapeB n ns zs k || decide (ns k ≠ n ∨ listErr (zs k) (ns k) = 3)
def boundB (ns : Nat → Nat) (zs : Nat → Nat → Int) : Nat → Bool
  | 0 => false
  | k + 1 => boundB ns zs k || decide (listErr (zs k) (ns k) ≠ 0)
def chainErr (n : Nat) (ns : Nat → Nat) (zs : Nat → Nat → Int) : Nat := if 8 < n then 2 else if n = 0 then 3 else if shapeB n ns zs n = true then 3 else if boundB ns zs n = true then 2 else 0
theorem shapeB_at {n : Nat} {ns : Nat → Nat} {zs : Nat → Nat → Int} {k : Nat} : ∀ {m : Nat}, k < m → (ns k ≠ n ∨ listErr (zs k) (ns k) = 3) → shapeB n ns zs m = true
  | 0, h, _ => by omega
  | m + 1, h, hb => by
    rw [shapeB]
    rcases Nat.lt_or_ge k m with h1 | h1
    · rw [shapeB_at h1 hb]; rfl
    · obtain rfl : k = m := by omega
      rw [decide_eq_true hb]; simp
theorem shapeB_none {n : Nat} {ns : Nat → Nat} {zs : Nat → Nat → Int} : ∀ {m : Nat}, shapeB n ns zs m = false → ∀ k, k < m → ns k = n ∧ listErr (zs k) (ns k) ≠ 3
  | 0, _, k, h => by omega
  | m + 1, h, k, hk => by
    rw [shapeB, Bool.or_eq_false_iff] at h
    rcases Nat.lt_or_ge k m with h1 | h1
    · exact shapeB_none h.1 k h1
    · obtain rfl : k = m := by omega
      have := of_decide_eq_false h.2
      exact ⟨by omega, by omega⟩
theorem boundB_none {ns : Nat → Nat} {zs : Nat → Nat → Int} : ∀ {m : Nat}, boundB ns zs m = false → ∀ k, k < m → listErr (zs k) (ns k) = 0
  | 0, _, k, h => by omega
  | m + 1, h, k, hk => by
    rw [boundB, Bool.or_eq_false_iff] at h
    rcases Nat.lt_or_ge k m with h1 | h1
    · exact boundB_none h.1 k h1
    · obtain rfl : k = m := by omega
      have := of_decide_eq_false h.2
      omega
theorem listErr_cases (z : Nat → Int) (n : Nat) : listErr z n = 0 ∨ listErr z n = 2 ∨ listErr z n = 3 := by
  unfold listErr
  split
  · exact Or.inr (Or.inr rfl)
  · split
    · exact Or.inr (Or.inl rfl)
    · exact Or.inl rfl
theorem chainErr_le (n : Nat) (ns : Nat → Nat) (zs : Nat → Nat → Int) : chainErr n ns zs ≤ 3 := by
  unfold chainErr; split; omega; split; omega; split; omega; split <;> omega
/-- What a right chain is. -/
theorem chainErr_ok {n : Nat} {ns : Nat → Nat} {zs : Nat → Nat → Int} (h : chainErr n ns zs = 0) : 0 < n ∧ n ≤ 8 ∧ (∀ i, i < n → ns i = n) ∧ ∀ i, i < n → OkW (zs i) n := by
  unfold chainErr at h
  by_cases h1 : 8 < n
  · rw [if_pos h1] at h; cases h
  rw [if_neg h1] at h
  by_cases h2 : n = 0
  · rw [if_pos h2] at h; cases h
  rw [if_neg h2] at h
  cases h3 : shapeB n ns zs n with
  | true => rw [h3, if_pos rfl] at h; cases h
  | false =>
    rw [h3, if_neg (by simp)] at h
    cases h4 : boundB ns zs n with
    | true => rw [h4, if_pos rfl] at h; cases h
    | false =>
      refine ⟨by omega, by omega, fun i hi => (shapeB_none h3 i hi).1, fun i hi => ?_⟩
      have := listErr_ok (boundB_none h4 i hi)
      rw [(shapeB_none h3 i hi).1] at this
      exact this

set_option maxRecDepth 100000 in
set_option maxHeartbeats 2000000 in
theorem ChainError_any (v : Value) (n : Nat) (vs : Nat → Value) (ns : Nat → Nat) (zs : Nat → Nat → Int) (w : World) (h : TabAt w v n vs ns zs) (hn : n ≤ 1000000) (hns : ∀ i, i < n → ns i ≤ 1000000) :
    Calls Tryd.prog 9 #[v] w fun e w' => e = .returned (.int .i64 (chainErr n ns zs : Nat)) ∧ w' = w := by
  obtain ⟨ad, cap, rfl⟩ := h.form
  have HT := Hid.mk' h
  clear h
  by_cases h8 : 8 < n
  · have hI : (8 : Int) < (n : Int) := by omega
    have he : chainErr n ns zs = 2 := by unfold chainErr; rw [if_pos h8]
    rw [he]
    go_enter Tryd.func9, Tryd.ntmps9
    go_wp2_with fail
    go_ret
    exact ⟨rfl, rfl⟩
  have hI : ¬ (8 : Int) < (n : Int) := by omega
  rcases Nat.eq_zero_or_pos n with h0 | h0
  · subst h0
    go_enter Tryd.func9, Tryd.ntmps9
    go_wp2_with fail
    go_ret
    exact ⟨rfl, rfl⟩
  have hz : ((n : Int) == 0) = false := by rw [beq_eq_false_iff_ne]; omega
  obtain ⟨b, o, rfl, hrows⟩ : ∃ b o, ad = some ⟨b, o, none⟩ ∧ ∀ i, i < n → w.cell? ⟨b, o + i, none⟩ = some (vs i) ∧ NumsAt w (vs i) (ns i) (zs i) := by
    rcases HT.out with ⟨_, _, _, h1⟩ | ⟨b, o, c, h1, _, h2⟩
    · omega
    · simp only [Value.slice.injEq, true_and] at h1
      exact ⟨b, o, h1.1, h2⟩
  have HR := Hid.mk' hrows
  have HNS := Hid.mk' hns
  have HE : Hid (chainErr n ns zs = if shapeB n ns zs n = true then 3 else if boundB ns zs n = true then 2 else 0) := by show _ = _; unfold chainErr; rw [if_neg h8, if_neg (by omega)]
  clear hrows hns
  go_enter Tryd.func9, Tryd.ntmps9
  go_wp2_with fail
  go_loop [3, 4] (fun s t => ∃ k : Nat, k ≤ n ∧ t = .int .i64 k ∧ s = .bool (boundB ns zs k) ∧ Hid (shapeB n ns zs k = false)) (fun _ t => n - (intOf t).toNat)
  case atStart => exact ⟨0, Nat.zero_le _, rfl, rfl, rfl⟩
  case round =>
    obtain ⟨k, hk, rfl, rfl, HS⟩ := hrel
    rcases Nat.lt_or_ge k n with h1 | h1
    · have hkI : (k : Int) < (n : Int) := by omega
      have hk0 : (0 : Int) ≤ (k : Int) := by omega
      obtain ⟨hc, hnum⟩ := HR.out k h1
      obtain ⟨rad, rcap, hre⟩ := hnum.form
      rw [hre] at hc hnum
      have hle := listError_any _ (ns k) (zs k) w hnum (HNS.out k h1)
      have hnk := HNS.out k h1
      by_cases hsh : ns k = n
      · have HSH := Hid.mk' hsh
        rcases listErr_cases (zs k) (ns k) with h5 | h5 | h5
        · rw [h5, hsh] at hle
          rw [hsh] at hc
          have HS' : Hid (shapeB n ns zs (k + 1) = false) := by show _ = _; rw [shapeB, HS.out, decide_eq_false (by rw [h5]; have := HSH.out; omega)]; rfl
          have HB' : Hid (boundB ns zs (k + 1) = boundB ns zs k) := by show _ = _; rw [boundB, decide_eq_false (by rw [h5]; simp)]; simp
          cases hbb : boundB ns zs k with
          | true =>
            rw [hbb] at HB'
            clear h5 hsh
            go_wp2_with fail
            refine hle.mono ?_
            clear hle
            rintro e w2 ⟨rfl, hw2⟩
            go_wp2_with fail
            exact ⟨⟨k + 1, h1, by go_num, by rw [HB'.out], HS'⟩, by simp [intOf]; omega⟩
          | false =>
            rw [hbb] at HB'
            clear h5 hsh
            go_wp2_with fail
            refine hle.mono ?_
            clear hle
            rintro e w2 ⟨rfl, hw2⟩
            go_wp2_with fail
            exact ⟨⟨k + 1, h1, by go_num, by rw [HB'.out], HS'⟩, by simp [intOf]; omega⟩
        · rw [h5, hsh] at hle
          rw [hsh] at hc
          have HS' : Hid (shapeB n ns zs (k + 1) = false) := by show _ = _; rw [shapeB, HS.out, decide_eq_false (by rw [h5]; have := HSH.out; omega)]; rfl
          have HB' : Hid (boundB ns zs (k + 1) = true) := by show _ = _; rw [boundB, decide_eq_true (by rw [h5]; simp)]; simp
          cases hbb : boundB ns zs k with
          | true =>
            clear h5 hsh
            go_wp2_with fail
            refine hle.mono ?_
            clear hle
            rintro e w2 ⟨rfl, hw2⟩
            go_wp2_with fail
            exact ⟨⟨k + 1, h1, by go_num, by rw [HB'.out], HS'⟩, by simp [intOf]; omega⟩
          | false =>
            clear h5 hsh
            go_wp2_with fail
            refine hle.mono ?_
            clear hle
            rintro e w2 ⟨rfl, hw2⟩
            go_wp2_with fail
            exact ⟨⟨k + 1, h1, by go_num, by rw [HB'.out], HS'⟩, by simp [intOf]; omega⟩
        · rw [h5, hsh] at hle
          rw [hsh] at hc
          have HV : Hid (chainErr n ns zs = 3) := by show _ = _; rw [HE.out, if_pos (shapeB_at h1 (Or.inr h5))]
          clear h5 hsh
          go_wp2_with fail
          refine hle.mono ?_
          clear hle
          rintro e w2 ⟨rfl, hw2⟩
          go_wp2_with fail
          go_ret
          exact ⟨ret_int (by rw [HV.out]; rfl), rfl⟩
      · have hne : ((ns k : Int) != (n : Int)) = true := by rw [bne_iff_ne]; omega
        have HV : Hid (chainErr n ns zs = 3) := by show _ = _; rw [HE.out, if_pos (shapeB_at h1 (Or.inl hsh))]
        clear hsh hle
        go_wp2_with fail
        go_ret
        exact ⟨ret_int (by rw [HV.out]; rfl), rfl⟩
    · obtain rfl : n = k := by omega
      cases hbb : boundB ns zs n with
      | true =>
        have HV : Hid (chainErr n ns zs = 2) := by show _ = _; rw [HE.out, HS.out, if_neg (by simp), if_pos hbb]
        go_wp2_with fail
        go_ret
        exact ⟨ret_int (by rw [HV.out]; rfl), rfl⟩
      | false =>
        have HV : Hid (chainErr n ns zs = 0) := by show _ = _; rw [HE.out, HS.out, if_neg (by simp), if_neg (by rw [hbb]; simp)]
        go_wp2_with fail
        go_ret
        exact ⟨ret_int (by rw [HV.out]; rfl), rfl⟩
end Go.Proofs.YtlmehmbipbkeiaaDoor
