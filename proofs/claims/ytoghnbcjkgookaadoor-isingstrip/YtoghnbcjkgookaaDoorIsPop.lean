/- Bits of a column: math/bits.OnesCount up to 4 bits, ising.between, ising.within. -/
import Derived.Test.YtoghnbcjkgookaaDoorIsSt
import Derived.Laws.Bits128
namespace Go.Proofs.YtoghnbcjkgookaaDoor
open Go.RowKit

/-- How many of the four lowest bits are set. -/
def popB (x : Nat) : Nat := x % 2 + x / 2 % 2 + x / 4 % 2 + x / 8 % 2
def po1 (x : Nat) : Nat := (x / 2 &&& 6148914691236517205) + (x &&& 6148914691236517205)
def po2 (x : Nat) : Nat := (x / 4 &&& 3689348814741910323) + (x &&& 3689348814741910323)
def po3 (x : Nat) : Nat := (x / 16 + x) &&& 1085102592571150095
def po4 (x : Nat) : Nat := x + x / 256
def po5 (x : Nat) : Nat := x + x / 65536
def po6 (x : Nat) : Nat := x + x / 4294967296
theorem po_tab : ∀ x, x < 16 → po6 (po5 (po4 (po3 (po2 (po1 x))))) % 128 = popB x := by decide +kernel
/-- Where two columns are unlike; a column's unlike neighbours. -/
def btw (a b : Nat) : Nat := popB (a ^^^ b)
def wth (h c : Nat) : Nat := popB ((c ^^^ c >>> 1) &&& (2 ^ (h - 1) - 1))

theorem ones_core (x x1 x2 x3 x4 x5 x6 : Nat) (w : World)
    (h1 : IntKind.u64.wrap (bits .and .u64 ((x : Int) / 2) 6148914691236517205 + bits .and .u64 (x : Int) 6148914691236517205) = (x1 : Int))
    (h2 : IntKind.u64.wrap (bits .and .u64 ((x1 : Int) / 4) 3689348814741910323 + bits .and .u64 (x1 : Int) 3689348814741910323) = (x2 : Int))
    (h3 : bits .and .u64 (IntKind.u64.wrap ((x2 : Int) / 16 + (x2 : Int))) 1085102592571150095 = (x3 : Int))
    (h4 : IntKind.u64.wrap ((x3 : Int) + (x3 : Int) / 256) = (x4 : Int))
    (h5 : IntKind.u64.wrap ((x4 : Int) + (x4 : Int) / 65536) = (x5 : Int))
    (h6 : IntKind.u64.wrap ((x5 : Int) + (x5 : Int) / 4294967296) = (x6 : Int))
    (h7 : IntKind.i64.wrap (x6 : Int) = (x6 : Int)) :
    Calls Tryd.prog 56 #[.int .u64 x] w fun e w' => e = .returned (.int .i64 ((x6 : Int) % 128)) ∧ w' = w := by
  go_enter Tryd.func56, Tryd.ntmps56
  have h8 := i64_and127 (x6 : Int)
  go_wp2
  go_ret
  exact ⟨rfl, rfl⟩
theorem Ones64_any (x : Nat) (hx : x < 16) (w : World) :
    Calls Tryd.prog 56 #[.int .u64 x] w fun e w' => e = .returned (.int .i64 (popB x : Nat)) ∧ w' = w := by
  have e := po_tab x hx
  have q1 : po1 x ≤ x / 2 + x := Nat.add_le_add Nat.and_le_left Nat.and_le_left
  have a1 : x / 2 &&& 6148914691236517205 ≤ x / 2 := Nat.and_le_left
  have b1 : x &&& 6148914691236517205 ≤ x := Nat.and_le_left
  have q2 : po2 (po1 x) ≤ po1 x / 4 + po1 x := Nat.add_le_add Nat.and_le_left Nat.and_le_left
  have a2 : po1 x / 4 &&& 3689348814741910323 ≤ po1 x / 4 := Nat.and_le_left
  have b2 : po1 x &&& 3689348814741910323 ≤ po1 x := Nat.and_le_left
  have q3 : po3 (po2 (po1 x)) ≤ po2 (po1 x) / 16 + po2 (po1 x) := Nat.and_le_left
  have q4 : po4 (po3 (po2 (po1 x))) = po3 (po2 (po1 x)) + po3 (po2 (po1 x)) / 256 := rfl
  have q5 : po5 (po4 (po3 (po2 (po1 x)))) = po4 (po3 (po2 (po1 x))) + po4 (po3 (po2 (po1 x))) / 65536 := rfl
  have q6 : po6 (po5 (po4 (po3 (po2 (po1 x))))) = po5 (po4 (po3 (po2 (po1 x)))) + po5 (po4 (po3 (po2 (po1 x)))) / 4294967296 := rfl
  refine (ones_core x (po1 x) (po2 (po1 x)) (po3 (po2 (po1 x))) (po4 (po3 (po2 (po1 x)))) (po5 (po4 (po3 (po2 (po1 x))))) (po6 (po5 (po4 (po3 (po2 (po1 x)))))) w ?_ ?_ ?_ ?_ ?_ ?_ ?_).mono ?_
  · have e1 : ((x : Int) / 2) = ((x / 2 : Nat) : Int) := by omega
    rw [e1, show (6148914691236517205 : Int) = ((6148914691236517205 : Nat) : Int) from rfl, u64_and_nat _ _ (by omega) (by omega), u64_and_nat _ _ (by omega) (by omega), IntKind.wrap_u64]
    unfold po1
    omega
  · generalize po1 x = y at *
    have e1 : ((y : Int) / 4) = ((y / 4 : Nat) : Int) := by omega
    rw [e1, show (3689348814741910323 : Int) = ((3689348814741910323 : Nat) : Int) from rfl, u64_and_nat _ _ (by omega) (by omega), u64_and_nat _ _ (by omega) (by omega), IntKind.wrap_u64]
    unfold po2
    omega
  · generalize po2 (po1 x) = y at *
    have e1 : IntKind.u64.wrap ((y : Int) / 16 + (y : Int)) = ((y / 16 + y : Nat) : Int) := by rw [IntKind.wrap_u64]; omega
    rw [e1, show (1085102592571150095 : Int) = ((1085102592571150095 : Nat) : Int) from rfl, u64_and_nat _ _ (by omega) (by omega)]
    rfl
  · rw [IntKind.wrap_u64]; omega
  · rw [IntKind.wrap_u64]; omega
  · rw [IntKind.wrap_u64]; omega
  · simp [IntKind.wrap, IntKind.bits, IntKind.signed]; omega
  · rintro r w' ⟨rfl, rfl⟩
    refine ⟨?_, rfl⟩
    rw [← e]
    simp
theorem Ones_any (x : Nat) (hx : x < 16) (w : World) :
    Calls Tryd.prog 48 #[.int .u64 x] w fun e w' => e = .returned (.int .i64 (popB x : Nat)) ∧ w' = w := by
  have HO := Hid.mk' (Ones64_any x hx w)
  have hxI : (x : Int) < 16 := by omega
  have hx0 : (0 : Int) ≤ (x : Int) := by omega
  go_enter Tryd.func48, Tryd.ntmps48
  go_wp2_with fail
  refine HO.out.mono ?_
  rintro e w2 ⟨rfl, hw2⟩
  rw [hw2]
  clear hw2
  go_wp2_with fail
  go_ret
  exact ⟨rfl, rfl⟩
theorem between_any (a b : Nat) (ha : a < 16) (hb : b < 16) (w : World) :
    Calls Tryd.prog 36 #[.int .i64 a, .int .i64 b] w fun e w' => e = .returned (.int .i64 (btw a b : Nat)) ∧ w' = w := by
  have hx : a ^^^ b < 2 ^ 4 := Nat.xor_lt_two_pow (by omega) (by omega)
  have e1 := i64_xorN a b (by omega) (by omega)
  have HO := Hid.mk' (Ones_any (a ^^^ b) (by omega) w)
  unfold btw
  generalize a ^^^ b = x at *
  have hxI : (x : Int) < 16 := by omega
  have hx0 : (0 : Int) ≤ (x : Int) := by omega
  have e2 : IntKind.u64.wrap (x : Int) = (x : Int) := by rw [IntKind.wrap_u64]; omega
  go_enter Tryd.func36, Tryd.ntmps36
  go_wp2_with fail
  refine HO.out.mono ?_
  rintro e w2 ⟨rfl, hw2⟩
  rw [hw2]
  clear hw2
  go_wp2_with fail
  go_ret
  exact ⟨rfl, rfl⟩
set_option maxHeartbeats 2000000 in
theorem within_core (c h m : Nat) (hc : c < 16) (hm : m ≤ 7) (hh : (h = 1 ∧ m = 0) ∨ (h = 2 ∧ m = 1) ∨ (h = 3 ∧ m = 3) ∨ (h = 4 ∧ m = 7)) (w : World) :
    Calls Tryd.prog 47 #[.int .i64 c, .int .i64 h] w fun e w' => e = .returned (.int .i64 (popB ((c ^^^ c >>> 1) &&& m) : Nat)) ∧ w' = w := by
  have hs := shr_le c 1
  have es : (c : Int) / (2 : Int) = ((c >>> 1 : Nat) : Int) := by rw [Nat.shiftRight_eq_div_pow]; omega
  have hx : c ^^^ c >>> 1 < 2 ^ 4 := Nat.xor_lt_two_pow (by omega) (by omega)
  have e1 := i64_xorN c (c >>> 1) (by omega) (by omega)
  have e2 := i64_andN (c ^^^ c >>> 1) m (by omega) (by omega)
  have hy : (c ^^^ c >>> 1) &&& m ≤ c ^^^ c >>> 1 := Nat.and_le_left
  have HO := Hid.mk' (Ones_any ((c ^^^ c >>> 1) &&& m) (by omega) w)
  generalize (c ^^^ c >>> 1) &&& m = y at *
  generalize c ^^^ c >>> 1 = x at *
  generalize c >>> 1 = s at *
  have hyI : (y : Int) < 16 := by omega
  have hy0 : (0 : Int) ≤ (y : Int) := by omega
  have e3 : IntKind.u64.wrap (y : Int) = (y : Int) := by rw [IntKind.wrap_u64]; omega
  have hcI : (c : Int) < 16 := by omega
  have hc0 : (0 : Int) ≤ (c : Int) := by omega
  clear hx hs hy
  have HS := Hid.mk' es
  have HX := Hid.mk' e1
  have HY := Hid.mk' e3
  clear es e1 e3
  rcases hh with ⟨rfl, rfl⟩ | ⟨rfl, rfl⟩ | ⟨rfl, rfl⟩ | ⟨rfl, rfl⟩
  · skip
    have HA : Hid (bits .and .i64 (x : Int) 0 = (y : Int)) := e2
    clear e2
    go_enter Tryd.func47, Tryd.ntmps47
    go_wp2_with fail
    rw [HS.out, HX.out, HA.out, HY.out]
    refine HO.out.mono ?_
    rintro e w2 ⟨rfl, hw2⟩
    rw [hw2]
    clear hw2
    go_wp2_with fail
    go_ret
    exact ⟨rfl, rfl⟩
  · skip
    have HA : Hid (bits .and .i64 (x : Int) 1 = (y : Int)) := e2
    clear e2
    go_enter Tryd.func47, Tryd.ntmps47
    go_wp2_with fail
    rw [HS.out, HX.out, HA.out, HY.out]
    refine HO.out.mono ?_
    rintro e w2 ⟨rfl, hw2⟩
    rw [hw2]
    clear hw2
    go_wp2_with fail
    go_ret
    exact ⟨rfl, rfl⟩
  · skip
    have HA : Hid (bits .and .i64 (x : Int) 3 = (y : Int)) := e2
    clear e2
    go_enter Tryd.func47, Tryd.ntmps47
    go_wp2_with fail
    rw [HS.out, HX.out, HA.out, HY.out]
    refine HO.out.mono ?_
    rintro e w2 ⟨rfl, hw2⟩
    rw [hw2]
    clear hw2
    go_wp2_with fail
    go_ret
    exact ⟨rfl, rfl⟩
  · skip
    have HA : Hid (bits .and .i64 (x : Int) 7 = (y : Int)) := e2
    clear e2
    go_enter Tryd.func47, Tryd.ntmps47
    go_wp2_with fail
    rw [HS.out, HX.out, HA.out, HY.out]
    refine HO.out.mono ?_
    rintro e w2 ⟨rfl, hw2⟩
    rw [hw2]
    clear hw2
    go_wp2_with fail
    go_ret
    exact ⟨rfl, rfl⟩
theorem within_any (c h : Nat) (hc : c < 16) (h1 : 1 ≤ h) (h4 : h ≤ 4) (w : World) :
    Calls Tryd.prog 47 #[.int .i64 c, .int .i64 h] w fun e w' => e = .returned (.int .i64 (wth h c : Nat)) ∧ w' = w := by
  rcases (show h = 1 ∨ h = 2 ∨ h = 3 ∨ h = 4 by omega) with rfl | rfl | rfl | rfl
  · exact within_core c 1 0 hc (by decide) (by decide) w
  · exact within_core c 2 1 hc (by decide) (by decide) w
  · exact within_core c 3 3 hc (by decide) (by decide) w
  · exact within_core c 4 7 hc (by decide) (by decide) w
end Go.Proofs.YtoghnbcjkgookaaDoor
