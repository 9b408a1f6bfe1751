/- logs.checkPowers and powers: the powers that are compared, in the program's numbers without a bound. -/
import Derived.Test.YtmdimdoglpiiiaaGreatDoorWordsCmp
import Derived.Test.YtmdimdoglpiiiaaGreatDoorSignOf
import Derived.Test.YtmdimdoglpiiiaaGreatDoorValidLog
namespace Go.Proofs.YtmdimdoglpiiiaaGreatDoor
open Go.RowKit

def powErr : Bool → Bool → (Nat → Addr) → Value
  | false, _, a => .iface 202 (.pointer (some (a 2)))
  | true, false, a => .iface 202 (.pointer (some (a 1)))
  | true, true, _ => .nilIface
def powCode : Bool → Bool → Int
  | false, _ => 3
  | true, false => 2
  | true, true => 0

theorem cost_le {n : Nat} {p c : Nat → Int} (hb : Bounded n p c) : ∀ k, k ≤ n → cost p c k ≤ k * 21990232555520
  | 0, _ => by simp [cost]
  | k + 1, h => by
    have ih := cost_le hb k (by omega)
    obtain ⟨h1, h2, h3, h4, _⟩ := hb k (by omega)
    have hm := Nat.mul_le_mul (show (c k).natAbs ≤ 1099511627776 by omega) (bitLen_million (n := (p k).toNat) (by omega))
    have e : cost p c (k + 1) = cost p c k + (c k).natAbs * bitLen (p k).toNat := rfl
    omega

theorem log_of_own {w : World} {sv : Value} {n : Nat} {p c : Nat → Int} (h : (sv = .slice none 0 0 ∧ n = 0) ∨ ∃ g cap, sv = .slice (some ⟨g, 0, none⟩) n cap ∧ TermsAt w g 0 n p c) : ∃ ad cap, sv = .slice ad n cap ∧ LogAt w (.slice ad n cap) n p c := by
  rcases h with ⟨rfl, rfl⟩ | ⟨g, cap, rfl, ht⟩
  · exact ⟨none, 0, rfl, Or.inl ⟨none, 0, rfl, rfl⟩⟩
  · rcases Nat.eq_zero_or_pos n with rfl | hp
    · exact ⟨_, cap, rfl, Or.inl ⟨_, cap, rfl, rfl⟩⟩
    · exact ⟨_, cap, rfl, Or.inr ⟨g, 0, cap, rfl, hp, ht⟩⟩

theorem wpow_room (m : Nat) : 2 ^ m < 18446744073709551616 ^ (m + 1) :=
  Nat.lt_of_le_of_lt (Nat.pow_le_pow_left (show 2 ≤ 18446744073709551616 by decide) m) (Nat.pow_lt_pow_right (by decide) (Nat.lt_succ_self m))

theorem sides_lt {p c : Nat → Int} {t k n K : Nat} (hk : k ≤ n) (h : 2 ^ (t * cost p c n) < 18446744073709551616 ^ K) : sideUp p c t k < 18446744073709551616 ^ K ∧ sideDown p c t k < 18446744073709551616 ^ K := by
  have h1 := sides_le p c t k
  have h2 : 2 ^ (t * cost p c k) ≤ 2 ^ (t * cost p c n) := Nat.pow_le_pow_right (by decide) (Nat.mul_le_mul_left _ (cost_mono p c hk))
  exact ⟨Nat.lt_of_le_of_lt (Nat.le_trans h1.1 h2) h, Nat.lt_of_le_of_lt (Nat.le_trans h1.2 h2) h⟩

end Go.Proofs.YtmdimdoglpiiiaaGreatDoor
