/- Package zero's sets: how many, the first one, those below a number, is one in it. -/
import Derived.Test.YtojljmapdafmaaaDoorZePop
import Derived.Test.YtojljmapdafmaaaDoorLaysTz
import Derived.Laws.BitsAllLaws
import Derived.Laws.Bits128
import Derived.Laws.DeepNot64
import Derived.Below
namespace Go.Proofs.YtojljmapdafmaaaDoor
open Go.RowKit

/-- The library's table in its variable. -/
def TzAt (w : World) : Prop := TabAt 9 Lib.deBruijn64tab w
theorem TzAt.below {w w' : World} (h : TzAt w) (hb : Below w.heap.size w w') : TzAt w' := fun j hj => by
  have h1 := h j hj
  have h2 : 9 < w.heap.size := by
    rcases Nat.lt_or_ge 9 w.heap.size with h' | h'
    · exact h'
    · simp [World.cell?, Array.getElem?_eq_none h'] at h1
  rw [hb.cell (p := ⟨9, j, none⟩) h2]
  exact h1

theorem ones_core (x x1 x2 x3 x4 x5 x6 : Nat) (w : World)
    (h1 : IntKind.u64.wrap (bits .and .u64 ((x : Int) / 2) 6148914691236517205 + bits .and .u64 (x : Int) 6148914691236517205) = (x1 : Int))
    (h2 : IntKind.u64.wrap (bits .and .u64 ((x1 : Int) / 4) 3689348814741910323 + bits .and .u64 (x1 : Int) 3689348814741910323) = (x2 : Int))
    (h3 : bits .and .u64 (IntKind.u64.wrap ((x2 : Int) / 16 + (x2 : Int))) 1085102592571150095 = (x3 : Int))
    (h4 : IntKind.u64.wrap ((x3 : Int) + (x3 : Int) / 256) = (x4 : Int))
    (h5 : IntKind.u64.wrap ((x4 : Int) + (x4 : Int) / 65536) = (x5 : Int))
    (h6 : IntKind.u64.wrap ((x5 : Int) + (x5 : Int) / 4294967296) = (x6 : Int))
    (h7 : IntKind.i64.wrap (x6 : Int) = (x6 : Int)) :
    Calls Tryd.prog 61 #[.int .u64 x] w fun e w' => e = .returned (.int .i64 ((x6 : Int) % 128)) ∧ w' = w := by
  go_enter Tryd.func61, Tryd.ntmps61
  have h8 := i64_and127 (x6 : Int)
  go_wp2
  go_ret
  exact ⟨rfl, rfl⟩
theorem OnesCount64_any (l : List Nat) (h : Asc 16 l) (w : World) :
    Calls Tryd.prog 61 #[.int .u64 (bitZ l : Nat)] w fun e w' => e = .returned (.int .i64 (l.length : Nat)) ∧ w' = w := by
  have e := popW_bits h
  have hx := h.lt
  unfold popW at e
  generalize bitZ l = x at hx e ⊢
  have q1 : pop1 x ≤ x / 2 + x := Nat.add_le_add Nat.and_le_left Nat.and_le_left
  have a1 : x / 2 &&& 6148914691236517205 ≤ x / 2 := Nat.and_le_left
  have b1 : x &&& 6148914691236517205 ≤ x := Nat.and_le_left
  have q2 : pop2 (pop1 x) ≤ pop1 x / 4 + pop1 x := Nat.add_le_add Nat.and_le_left Nat.and_le_left
  have a2 : pop1 x / 4 &&& 3689348814741910323 ≤ pop1 x / 4 := Nat.and_le_left
  have b2 : pop1 x &&& 3689348814741910323 ≤ pop1 x := Nat.and_le_left
  have q3 : pop3 (pop2 (pop1 x)) ≤ pop2 (pop1 x) / 16 + pop2 (pop1 x) := Nat.and_le_left
  have q4 : pop4 (pop3 (pop2 (pop1 x))) = pop3 (pop2 (pop1 x)) + pop3 (pop2 (pop1 x)) / 256 := rfl
  have q5 : pop5 (pop4 (pop3 (pop2 (pop1 x)))) = pop4 (pop3 (pop2 (pop1 x))) + pop4 (pop3 (pop2 (pop1 x))) / 65536 := rfl
  have q6 : pop6 (pop5 (pop4 (pop3 (pop2 (pop1 x))))) = pop5 (pop4 (pop3 (pop2 (pop1 x)))) + pop5 (pop4 (pop3 (pop2 (pop1 x)))) / 4294967296 := rfl
  refine (ones_core x (pop1 x) (pop2 (pop1 x)) (pop3 (pop2 (pop1 x))) (pop4 (pop3 (pop2 (pop1 x)))) (pop5 (pop4 (pop3 (pop2 (pop1 x))))) (pop6 (pop5 (pop4 (pop3 (pop2 (pop1 x)))))) w ?_ ?_ ?_ ?_ ?_ ?_ ?_).mono ?_
  · have e1 : ((x : Int) / 2) = ((x / 2 : Nat) : Int) := by omega
    rw [e1, show (6148914691236517205 : Int) = ((6148914691236517205 : Nat) : Int) from rfl, u64_and_nat _ _ (by omega) (by omega), u64_and_nat _ _ (by omega) (by omega), IntKind.wrap_u64]
    unfold pop1
    omega
  · generalize pop1 x = y at *
    have e1 : ((y : Int) / 4) = ((y / 4 : Nat) : Int) := by omega
    rw [e1, show (3689348814741910323 : Int) = ((3689348814741910323 : Nat) : Int) from rfl, u64_and_nat _ _ (by omega) (by omega), u64_and_nat _ _ (by omega) (by omega), IntKind.wrap_u64]
    unfold pop2
    omega
  · generalize pop2 (pop1 x) = y at *
    have e1 : IntKind.u64.wrap ((y : Int) / 16 + (y : Int)) = ((y / 16 + y : Nat) : Int) := by rw [IntKind.wrap_u64]; omega
    rw [e1, show (1085102592571150095 : Int) = ((1085102592571150095 : Nat) : Int) from rfl, u64_and_nat _ _ (by omega) (by omega)]
    rfl
  · rw [IntKind.wrap_u64]; omega
  · rw [IntKind.wrap_u64]; omega
  · rw [IntKind.wrap_u64]; omega
  · simp [IntKind.wrap, IntKind.bits, IntKind.signed]; omega
  · rintro r w' ⟨rfl, rfl⟩
    refine ⟨?_, rfl⟩
    rw [← e]
    simp
theorem setSize_any (l : List Nat) (h : Asc 16 l) (w : World) :
    Calls Tryd.prog 46 #[.int .u64 (bitZ l : Nat)] w fun e w' => e = .returned (.int .i64 (l.length : Nat)) ∧ w' = w := by
  have hc := OnesCount64_any l h w
  go_enter Tryd.func46, Tryd.ntmps46
  go_wp2_with fail
  refine hc.mono ?_
  rintro e w' ⟨rfl, rfl⟩
  go_wp2_with fail
  go_ret
  exact ⟨rfl, rfl⟩
theorem setFirst_any (v : Nat) (r : List Nat) (h : Asc 64 (v :: r)) (w : World) (ht : TzAt w) :
    Calls Tryd.prog 59 #[.int .u64 (bitZ (v :: r) : Nat)] w fun e w' => e = .returned (.int .i64 v) ∧ w' = w := by
  have hc := Any7.bits_TrailingZeros64 (ρ := Tryd.tzA_ren) Tryd.tzA (bitZ (v :: r)) h.lt w (fun _ => ht)
  rw [bitZ_ctz h] at hc
  generalize bitZ (v :: r) = x at *
  go_enter Tryd.func59, Tryd.ntmps59
  go_wp2_with fail
  refine hc.mono ?_
  rintro e w' ⟨rfl, rfl⟩
  go_wp2_with fail
  go_ret
  exact ⟨rfl, rfl⟩
theorem bitZ_range (n : Nat) : bitZ (List.range n) = 2 ^ n - 1 := Nat.eq_of_testBit_eq fun i => by
  rw [bitZ_test, Nat.testBit_two_pow_sub_one, decide_eq_decide]
  exact List.mem_range
theorem shl_one {v : Nat} (hv : v < 64) : IntKind.u64.wrap ((2 : Int) ^ v) = ((2 ^ v : Nat) : Int) := by
  have h2 : 2 ^ v < 18446744073709551616 := Nat.pow_lt_pow_right (a := 2) (n := 64) (by decide) hv
  have e : ((2 : Int) ^ v) = ((2 ^ v : Nat) : Int) := by simp
  rw [IntKind.wrap_u64, e]
  exact Int.emod_eq_of_lt (Int.natCast_nonneg _) (Int.ofNat_lt.2 h2)
theorem upTo_any (n : Nat) (hn : n < 64) (w : World) :
    Calls Tryd.prog 60 #[.int .i64 n] w fun e w' => e = .returned (.int .u64 (bitZ (List.range n) : Nat)) ∧ w' = w := by
  have h0 : (0 : Int) ≤ (n : Int) := by omega
  have hs := shl_one hn
  rw [bitZ_range]
  have hp : 1 ≤ 2 ^ n := Nat.one_le_two_pow
  have h2 : 2 ^ n < 18446744073709551616 := Nat.pow_lt_pow_right (a := 2) (n := 64) (by decide) hn
  have e : IntKind.u64.wrap (((2 ^ n : Nat) : Int) - 1) = ((2 ^ n - 1 : Nat) : Int) := by rw [IntKind.wrap_u64]; omega
  generalize 2 ^ n = x at hs hp h2 e ⊢
  go_enter Tryd.func60, Tryd.ntmps60
  go_wp2
  go_ret
  exact ⟨rfl, rfl⟩
end Go.Proofs.YtojljmapdafmaaaDoor
