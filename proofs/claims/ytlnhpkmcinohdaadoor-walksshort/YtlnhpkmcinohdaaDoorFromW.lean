/- The document's Contains and From. -/
import Derived.Test.YtlnhpkmcinohdaaDoorClosed
namespace Go.Proofs.YtlnhpkmcinohdaaDoor
open Go.RowKit

set_option maxRecDepth 100000 in
theorem Contains_any (v : Value) (l : List Nat) (x : Nat) (w : World) (h : StatesAt w v l) (_ : l.length ≤ 1000) :
    Calls Tryd.prog 32 #[v, .int .i64 x] w fun e w' => e = .returned (.bool (decide (x ∈ l))) ∧ w' = w := by
  obtain ⟨ad, cap, rfl⟩ := NumsAt.form h
  have HR : Hid (∀ i, i < l.length → ∃ b o, ad = some ⟨b, o, none⟩ ∧ w.cell? ⟨b, o + i, none⟩ = some (.int .i64 ((l.getD i 0 : Nat) : Int))) := fun i hi => by
    rcases h with ⟨_, _, _, h0⟩ | ⟨b, o, c, h1, _, h2⟩
    · omega
    · simp only [Value.slice.injEq, true_and] at h1
      exact ⟨b, o, h1.1, h2 i hi⟩
  clear h
  go_enter Tryd.func32, Tryd.ntmps32
  go_wp2_with fail
  go_loop [5] (fun t => ∃ k : Nat, k ≤ l.length ∧ t = .int .i64 k ∧ Hid (∀ i, i < k → l.getD i 0 ≠ x)) (fun t => l.length - (intOf t).toNat)
  case atStart => exact ⟨0, Nat.zero_le _, rfl, fun i hi => by omega⟩
  case round =>
    obtain ⟨k, hk, rfl, HN⟩ := hrel
    rcases Nat.lt_or_ge k l.length with h1 | h1
    · have hkI : (k : Int) < (l.length : Int) := by omega
      have hk0 : (0 : Int) ≤ (k : Int) := by omega
      obtain ⟨b, o, hadd, hc⟩ := HR.out k h1
      subst hadd
      by_cases he : l.getD k 0 = x
      · have hb : (((l.getD k 0 : Nat) : Int) == (x : Int)) = true := by rw [he]; simp
        have HV : Hid (decide (x ∈ l) = true) := decide_eq_true (by rw [← he, List.getD_eq_getElem?_getD, List.getElem?_eq_getElem h1]; simp)
        clear he
        generalize l.getD k 0 = y at *
        go_wp2_with fail
        go_ret
        exact ⟨ret_bool HV.out.symm, rfl⟩
      · have hb : (((l.getD k 0 : Nat) : Int) == (x : Int)) = false := by rw [beq_eq_false_iff_ne]; omega
        have HN' : Hid (∀ i, i < k + 1 → l.getD i 0 ≠ x) := fun i hi => by
          rcases Nat.lt_or_ge i k with h2 | h2
          · exact HN.out i h2
          · obtain rfl : i = k := by omega
            exact he
        clear he
        generalize l.getD k 0 = y at *
        go_wp2_with fail
        exact ⟨⟨k + 1, h1, by go_num, HN'⟩, by simp [intOf]; omega⟩
    · obtain rfl : k = l.length := by omega
      have HV : Hid (decide (x ∈ l) = false) := decide_eq_false (fun hm => by
        obtain ⟨i, hi, he⟩ := List.mem_iff_getElem.1 hm
        exact HN.out i hi (by rw [List.getD_eq_getElem?_getD, List.getElem?_eq_getElem hi]; exact he))
      go_wp2_with fail
      go_ret
      exact ⟨ret_bool HV.out.symm, rfl⟩

theorem firstL_le (e : Nat → Nat → Bool) (i : Nat) : ∀ n, (firstL e i n).length ≤ n
  | 0 => by simp [firstL]
  | n + 1 => by
    have := firstL_le e i n
    rw [firstL]; split
    · simp; omega
    · omega

end Go.Proofs.YtlnhpkmcinohdaaDoor
