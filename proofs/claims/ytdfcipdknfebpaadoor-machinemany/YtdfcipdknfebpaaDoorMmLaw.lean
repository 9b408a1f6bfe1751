/- The law MachineMany. -/
import Derived.Test.YtdfcipdknfebpaaDoorMacV
import Derived.Test.YtdfcipdknfebpaaDoorMacW
import Derived.Test.YtdfcipdknfebpaaDoorDecimal
import Derived.Test.YtdfcipdknfebpaaDoorCodedV
import Derived.Test.YtdfcipdknfebpaaDoorErrZ
namespace Go.Proofs.YtdfcipdknfebpaaDoor
open Go.RowKit

/-- The text of long signs whose i-th sign is bit i of b. -/
def rowB (b : Nat) : Nat → List UInt8
  | 0 => []
  | i + 1 => rowB b i ++ [if b / 2 ^ i % 2 = 0 then 48 else 49]
theorem rowB_len (b : Nat) : ∀ i, (rowB b i).length = i
  | 0 => rfl
  | i + 1 => by show (rowB b i ++ [_]).length = _; rw [List.length_append, rowB_len b i]; rfl
theorem rowB_bit (b : Nat) : ∀ i, bitL (rowB b i) = true
  | 0 => rfl
  | i + 1 => by
    show bitL (rowB b i ++ [_]) = true
    rw [bitL_app, rowB_bit b i]
    by_cases h : b / 2 ^ i % 2 = 0
    · simp [h, bitL]
    · simp [h, bitL]
/-- How many of the first b texts of so many signs have a least program of at most n bytes. -/
def fewB (n g : Nat) : Nat → Nat
  | 0 => 0
  | b + 1 => fewB n g b + (if (fla (lstM (rowB b g))).length ≤ n then 1 else 0)
def fewL (n : Nat) : Nat → Nat
  | 0 => 0
  | g + 1 => fewL n g + fewB n g (2 ^ g)
theorem fewB_le (n g : Nat) : ∀ b, fewB n g b ≤ b
  | 0 => Nat.le_refl _
  | b + 1 => by
    have := fewB_le n g b
    show fewB n g b + _ ≤ _
    split <;> omega
/-- The same by the map of texts, for the kernel. -/
def fewBT (T : MT) (n g : Nat) : Nat → Nat
  | 0 => 0
  | b + 1 => fewBT T n g b + (if (fla ((T.get (rowB b g)).getD [])).length ≤ n then 1 else 0)
def fewLT (T : MT) (n : Nat) : Nat → Nat
  | 0 => 0
  | g + 1 => fewLT T n g + fewBT T n g (2 ^ g)
theorem fewB_T (n g : Nat) : ∀ b, fewB n g b = fewBT (lvl 17).2 n g b
  | 0 => rfl
  | b + 1 => by show fewB n g b + _ = fewBT _ n g b + _; rw [fewB_T n g b]; rfl
theorem fewL_T (n : Nat) : ∀ g, fewL n g = fewLT (lvl 17).2 n g
  | 0 => rfl
  | g + 1 => by show fewL n g + _ = fewLT _ n g + _; rw [fewL_T n g, fewB_T]
set_option maxRecDepth 100000 in
theorem few_looked : ((List.range 7).all fun n => decide (fewLT (lvl 17).2 n 4 ≤ [1, 1, 3, 3, 7, 7, 15].getD n 0)) = true := by decide +kernel
theorem many_val {n : Nat} (hn : n ≤ 16) : manyM (allE 17) n = [1, 1, 3, 3, 7, 7, 15, 19, 31, 47, 75, 117, 159, 217, 301, 355, 511].getD n 0 := by
  have h := looked5.2.2.2.2
  have h2 := congrArg (fun l : List Nat => l[n]?) h
  simp only [List.getElem?_map, List.getElem?_range (show n < 17 by omega), Option.map_some] at h2
  rw [List.getD_eq_getElem?_getD, ← h2]; rfl
theorem few_le {n : Nat} (hn : n ≤ 6) : fewL n 4 ≤ manyM (allE 17) n := by
  rw [fewL_T, many_val (by omega)]
  have h := few_looked
  rw [List.all_eq_true] at h
  have h2 := of_decide_eq_true (h n (List.mem_range.2 (by omega)))
  rcases n with _ | _ | _ | _ | _ | _ | _ | n
  all_goals first | exact h2 | omega
theorem many_big {n : Nat} (hn : n ≤ 16) : 1 ≤ manyM (allE 17) n ∧ manyM (allE 17) n < 2 * 2 ^ n ∧ manyM (allE 17) n ≤ 511 := by
  rw [many_val hn]
  rcases n with _ | _ | _ | _ | _ | _ | _ | _ | _ | _ | _ | _ | _ | _ | _ | _ | _ | n
  all_goals first | decide | omega
theorem many_up {n : Nat} (hn : n ≤ 6) : manyM (allE 17) n ≤ manyM (allE 17) (n + 1) := by
  rw [many_val (by omega), many_val (by omega)]
  rcases n with _ | _ | _ | _ | _ | _ | _ | n
  all_goals first | decide | omega
theorem twice_A {a : Nat → Addr} {W : World} (h : Errs W a) : Calls Tryd.prog 7 #[] W fun e w' => e = .returned (.bool true) ∧ Below W.heap.size W w' :=
  twice_any (errV a 2) (errV a 1) W (by rw [errV_pos a (by decide)]; exact h.c0) (by rw [errV_pos a (by decide)]; exact h.c1) (by rw [errV_pos a (by decide)]; exact ⟨_, _, rfl⟩) (by rw [errV_pos a (by decide)]; exact ⟨_, _, rfl⟩)
set_option maxRecDepth 100000 in
set_option maxHeartbeats 2000000 in
theorem Mm_bad (a : Nat → Addr) (n : Int) (w : World) (hE : Errs w a) (hn : n < 0 ∨ 16 < n) :
    Calls Tryd.prog 6 #[.int .i64 n] w fun e w' => e = .returned (.bool true) ∧ Below w.heap.size w w' := by
  have HT := Hid.mk' (twice_A hE)
  have HM : Hid (∀ W, Below w.heap.size w W → Calls Tryd.prog 15 #[.int .i64 n] W fun e w' => e = .returned (.tuple #[.int .i64 0, errV a 2]) ∧ Below W.heap.size W w') := fun W hb => Many_bad n (errV a 2) W hn (by rw [errV_pos a (by decide)]; exact (hE.below hb).c1)
  have HC : Hid (∀ W, Below w.heap.size w W → Calls Tryd.prog 12 #[errV a 2, .int .i64 2] W fun e w' => e = .returned (.bool true) ∧ Below W.heap.size W w') := fun W hb => coded_errV a 2 (by decide) W (hE.below hb)
  have hev : ∃ t y, errV a 2 = .iface t y := by rw [errV_pos a (by decide)]; exact ⟨_, _, rfl⟩
  generalize errV a 2 = V at *
  obtain ⟨t, y, rfl⟩ := hev
  clear hE
  rcases hn with h0 | h0
  · go_enter Tryd.func6, Tryd.ntmps6
    go_wp2_with fail
    refine HT.out.mono ?_
    clear HT
    rintro e w1 ⟨rfl, hB1⟩
    have HB1 := Hid.mk' hB1
    clear hB1
    go_wp2_with fail
    refine (HM.out w1 HB1.out).mono ?_
    clear HM
    rintro e w2 ⟨rfl, hB2⟩
    have HB2 := Hid.mk' (below_chain HB1.out hB2)
    clear hB2
    go_wp2_with fail
    refine (HC.out w2 HB2.out).mono ?_
    clear HC
    rintro e w3 ⟨rfl, hB3⟩
    have HB3 := Hid.mk' (below_chain HB2.out hB3)
    clear hB3
    go_wp2_with fail
    go_ret
    exact ⟨rfl, HB3.out⟩
  · have h1 : ¬ n < 0 := by omega
    go_enter Tryd.func6, Tryd.ntmps6
    go_wp2_with fail
    refine HT.out.mono ?_
    clear HT
    rintro e w1 ⟨rfl, hB1⟩
    have HB1 := Hid.mk' hB1
    clear hB1
    go_wp2_with fail
    refine (HM.out w1 HB1.out).mono ?_
    clear HM
    rintro e w2 ⟨rfl, hB2⟩
    have HB2 := Hid.mk' (below_chain HB1.out hB2)
    clear hB2
    go_wp2_with fail
    refine (HC.out w2 HB2.out).mono ?_
    clear HC
    rintro e w3 ⟨rfl, hB3⟩
    have HB3 := Hid.mk' (below_chain HB2.out hB3)
    clear hB3
    go_wp2_with fail
    go_ret
    exact ⟨rfl, HB3.out⟩
theorem wrap_small (x : Int) (h1 : -9223372036854775808 ≤ x) (h2 : x ≤ 9223372036854775807) : IntKind.i64.wrap x = x := by rw [IntKind.wrap_i64]; omega
theorem wrap_two (n P : Nat) (hP : P = 2 * 2 ^ n) (hPb : P ≤ 1000000) : IntKind.i64.wrap (2 * 2 ^ n) = (P : Int) := by
  have e : (2 : Int) * 2 ^ n = (P : Int) := by rw [hP]; simp
  rw [e, wrap_small _ (by omega) (by omega)]
theorem wrap_one (n P : Nat) (hP : P = 2 ^ n) (hPb : P ≤ 1000000) : IntKind.i64.wrap (2 ^ n) = (P : Int) := by
  have e : (2 : Int) ^ n = (P : Int) := by rw [hP]; simp
  rw [e, wrap_small _ (by omega) (by omega)]
set_option maxRecDepth 100000 in
set_option maxHeartbeats 2000000 in
theorem Mm_big (a : Nat → Addr) (n : Nat) (w : World) (hE : Errs w a) (hn : 6 < n) (hn2 : n ≤ 16) :
    Calls Tryd.prog 6 #[.int .i64 (n : Int)] w fun e w' => e = .returned (.bool true) ∧ Below w.heap.size w w' := by
  have HT := Hid.mk' (twice_A hE)
  have HM := Hid.mk' (fun W => Many_ok n W hn2)
  obtain ⟨k1, k2, k3⟩ := many_big hn2
  have k4 : n = 16 → manyM (allE 17) n = 511 := fun e => by rw [many_val hn2, e]; rfl
  generalize manyM (allE 17) n = K at *
  have hp16 : 2 * 2 ^ n ≤ 131072 := by
    have := Nat.pow_le_pow_right (show 0 < 2 by decide) hn2
    omega
  obtain ⟨P, hP⟩ : ∃ P, P = 2 * 2 ^ n := ⟨_, rfl⟩
  rw [← hP] at k2 hp16
  have hsh : IntKind.i64.wrap (2 * 2 ^ n) = (P : Int) := wrap_two n P hP (by omega)
  clear hE hP
  have j1 : ¬ (n : Int) < 0 := by omega
  have j2 : ¬ (16 : Int) < (n : Int) := by omega
  have j3 : (6 : Int) < (n : Int) := by omega
  have j4 : ¬ (K : Int) < 1 := by omega
  have j5 : ¬ (P : Int) ≤ (K : Int) := by omega
  rcases Nat.lt_or_ge n 16 with h16 | h16
  · have j6 : (n : Int) < 16 := by omega
    go_enter Tryd.func6, Tryd.ntmps6
    go_wp2_with fail
    refine HT.out.mono ?_
    clear HT
    rintro e w1 ⟨rfl, hB1⟩
    have HB1 := Hid.mk' hB1
    clear hB1
    go_wp2_with fail
    refine (HM.out w1).mono ?_
    clear HM
    rintro e w2 ⟨rfl, hB2⟩
    have HB2 := Hid.mk' (below_chain HB1.out hB2)
    clear hB2
    go_wp2_with fail
    go_ret
    exact ⟨rfl, HB2.out⟩
  · obtain rfl : n = 16 := by omega
    obtain rfl : K = 511 := k4 rfl
    go_enter Tryd.func6, Tryd.ntmps6
    go_wp2_with fail
    refine HT.out.mono ?_
    clear HT
    rintro e w1 ⟨rfl, hB1⟩
    have HB1 := Hid.mk' hB1
    clear hB1
    go_wp2_with fail
    refine (HM.out w1).mono ?_
    clear HM
    rintro e w2 ⟨rfl, hB2⟩
    have HB2 := Hid.mk' (below_chain HB1.out hB2)
    clear hB2
    go_wp2_with fail
    go_ret
    exact ⟨rfl, HB2.out⟩
theorem bit_dec (b i : Nat) : (⟨(Lib.decDigits (b / 2 ^ i % 2)).toArray⟩ : ByteArray) = bt [if b / 2 ^ i % 2 = 0 then 48 else 49] := by
  rcases Nat.mod_two_eq_zero_or_one (b / 2 ^ i) with h | h
  · have e : Lib.decDigits 0 = [48] := by decide +kernel
    rw [h, e]; rfl
  · have e : Lib.decDigits 1 = [49] := by decide +kernel
    rw [h, e]; rfl
theorem fewL_big (n : Nat) : ∀ g, fewL n g ≤ 2 ^ g
  | 0 => Nat.zero_le _
  | g + 1 => by
    have h1 := fewL_big n g
    have h2 := fewB_le n g (2 ^ g)
    show fewL n g + _ ≤ _
    rw [Nat.pow_succ]; omega
set_option maxRecDepth 100000 in
set_option maxHeartbeats 8000000 in
theorem Mm_small (a : Nat → Addr) (n : Nat) (w : World) (hE : Errs w a) (hn : n ≤ 6) :
    Calls Tryd.prog 6 #[.int .i64 (n : Int)] w fun e w' => e = .returned (.bool true) ∧ Below w.heap.size w w' := by
  have HT := Hid.mk' (twice_A hE)
  have HM := Hid.mk' (fun W => Many_ok n W (by omega))
  have HM2 : Hid (∀ W, Calls Tryd.prog 15 #[.int .i64 ((n : Int) + 1)] W fun e w' => e = .returned (.tuple #[.int .i64 (manyM (allE 17) (n + 1) : Int), .nilIface]) ∧ Below W.heap.size W w') := fun W => by
    have := Many_ok (n + 1) W (by omega)
    rwa [show ((n + 1 : Nat) : Int) = (n : Int) + 1 by omega] at this
  obtain ⟨k1, k2, k3⟩ := many_big (show n ≤ 16 by omega)
  obtain ⟨_, _, k5⟩ := many_big (show n + 1 ≤ 16 by omega)
  have k4 := many_up hn
  have HFW := Hid.mk' (few_le hn)
  generalize manyM (allE 17) n = K at *
  generalize manyM (allE 17) (n + 1) = K2 at *
  have hp16 : 2 * 2 ^ n ≤ 131072 := by
    have := Nat.pow_le_pow_right (show 0 < 2 by decide) (show n ≤ 16 by omega)
    omega
  obtain ⟨P, hP⟩ : ∃ P, P = 2 * 2 ^ n := ⟨_, rfl⟩
  rw [← hP] at k2 hp16
  have hsh : IntKind.i64.wrap (2 * 2 ^ n) = (P : Int) := wrap_two n P hP (by omega)
  clear hE hP
  have j1 : ¬ (n : Int) < 0 := by omega
  have j2 : ¬ (16 : Int) < (n : Int) := by omega
  have j3 : ¬ (6 : Int) < (n : Int) := by omega
  have j4 : ¬ (K : Int) < 1 := by omega
  have j5 : ¬ (P : Int) ≤ (K : Int) := by omega
  have j6 : ¬ (K2 : Int) < (K : Int) := by omega
  have j6n : ¬ K2 < K := by omega
  have j6d : decide (K2 < K) = false := decide_eq_false j6n
  have j7 : (n : Int) ≤ 6 := by omega
  have j8 : (K : Int) ≤ 511 := by omega
  go_enter Tryd.func6, Tryd.ntmps6
  go_wp2_with fail
  refine HT.out.mono ?_
  clear HT
  rintro e w1 ⟨rfl, hB1⟩
  have HB1 := Hid.mk' hB1
  clear hB1
  go_wp2_with fail
  refine (HM.out w1).mono ?_
  clear HM
  rintro e w2 ⟨rfl, hB2⟩
  have HB2 := Hid.mk' (below_chain HB1.out hB2)
  clear hB2
  go_wp2_with fail
  refine (HM2.out w2).mono ?_
  clear HM2
  rintro e w3 ⟨rfl, hB3⟩
  have HB3 := Hid.mk' (below_chain HB2.out hB3)
  clear hB3 HB2 HB1
  clear hsh
  go_wp2_with fail
  go_loopw [7, 8] (fun mv t wr => ∃ g : Nat, g ≤ 4 ∧ t = .int .i64 (g : Int) ∧ mv = .int .i64 (fewL n g : Int) ∧ Hid (Below w.heap.size w wr)) (fun _ t _ => 4 - (intOf t).toNat)
  case atStart => exact ⟨0, by omega, rfl, rfl, HB3⟩
  case round =>
    obtain ⟨g, hg, rfl, rfl, HB⟩ := hrel
    have g0 : (0 : Int) ≤ (g : Int) := by omega
    rcases Nat.lt_or_ge g 4 with h1 | h1
    · have gI : (g : Int) ≤ 3 := by omega
      obtain ⟨Q, hQ⟩ : ∃ Q, Q = 2 ^ g := ⟨_, rfl⟩
      have hQ8 : Q ≤ 8 := by
        have := Nat.pow_le_pow_right (show 0 < 2 by decide) (show g ≤ 3 by omega)
        omega
      have hsh : IntKind.i64.wrap (2 ^ g) = (Q : Int) := wrap_one g Q hQ (by omega)
      have HFL : Hid (fewL n (g + 1) = fewL n g + fewB n g Q) := by show fewL n g + fewB n g (2 ^ g) = _; rw [← hQ]
      have hfl : fewL n g ≤ 16 := by
        have h5 := fewL_big n g
        rw [← hQ] at h5
        omega
      clear hQ
      obtain ⟨wo, rfl⟩ : ∃ wo, wr = wo := ⟨_, rfl⟩
      generalize hF : fewL n g = F at *
      clear hF
      go_wp2_with fail
      go_loopw [7, 9] (fun mv t wr => ∃ b : Nat, b ≤ Q ∧ t = .int .i64 (b : Int) ∧ mv = .int .i64 ((F : Int) + (fewB n g b : Int)) ∧ Hid (Below w.heap.size w wr)) (fun _ t _ => Q - (intOf t).toNat)
      case atStart => exact ⟨0, by omega, rfl, by simp [fewB], HB⟩
      case round =>
        obtain ⟨b, hb, rfl, rfl, HBb⟩ := hrel
        have b0 : (0 : Int) ≤ (b : Int) := by omega
        have hfb := fewB_le n g b
        rcases Nat.lt_or_ge b Q with h2 | h2
        · have bI : (b : Int) < (Q : Int) := by omega
          have HNB : Hid (fewB n g (b + 1) = fewB n g b + (if (fla (lstM (rowB b g))).length ≤ n then 1 else 0)) := rfl
          generalize hG : fewB n g b = G at *
          clear hG
          obtain ⟨wo2, rfl⟩ : ∃ wo, wr = wo := ⟨_, rfl⟩
          go_wp2_with fail
          go_loopw [10, 11] (fun sv t wr => ∃ i : Nat, i ≤ g ∧ t = .int .i64 (i : Int) ∧ sv = .string (bt (rowB b i)) ∧ Hid (Below w.heap.size w wr)) (fun _ t _ => g - (intOf t).toNat)
          case atStart => exact ⟨0, by omega, rfl, rfl, HBb⟩
          case round =>
            obtain ⟨i, hi, rfl, rfl, HBi⟩ := hrel
            have i0 : (0 : Int) ≤ (i : Int) := by omega
            rcases Nat.lt_or_ge i g with h3 | h3
            · have iI : (i : Int) < (g : Int) := by omega
              obtain ⟨q, hq⟩ : ∃ q, q = b / 2 ^ i := ⟨_, rfl⟩
              have HD := Hid.mk' (fun W => Decimal_small (b / 2 ^ i % 2) W (by have := Nat.mod_lt (b / 2 ^ i) (show 0 < 2 by decide); omega))
              have HRB : Hid (bt (rowB b i) ++ ⟨(Lib.decDigits (b / 2 ^ i % 2)).toArray⟩ = bt (rowB b (i + 1))) := by
                show _ = _
                rw [bit_dec, bt_app]; rfl
              have hzs := bt_size (rowB b i)
              rw [rowB_len] at hzs
              have hdz : (⟨(Lib.decDigits (b / 2 ^ i % 2)).toArray⟩ : ByteArray).size = 1 := by rw [bit_dec, bt_size]; rfl
              have hqI : (b : Int) / 2 ^ i = (q : Int) := by rw [hq]; simp
              rw [← hq] at HD HRB hdz
              have hq0 : (0 : Int) ≤ (q : Int) := by omega
              obtain ⟨d, hd⟩ : ∃ d, d = q % 2 := ⟨_, rfl⟩
              have hm : (q : Int) % 2 = (d : Int) := by omega
              rw [← hd] at HD HRB hdz
              clear hq hd
              generalize bt (rowB b i) = S at *
              generalize hdd : (⟨(Lib.decDigits d).toArray⟩ : ByteArray) = DD at *
              clear hdd
              have hSb : S.size ≤ 8 := by omega
              have hDb : DD.size ≤ 8 := by omega
              clear hzs hdz
              go_wp2_with fail
              refine (HD.out _).mono ?_
              clear HD
              rintro e w5 ⟨rfl, hB5⟩
              have HB5 := Hid.mk' (below_chain HBi.out hB5)
              clear hB5
              go_wp2_with fail
              go_roundw
              case rel => exact ⟨i + 1, by omega, by simp, by rw [HRB.out], HB5⟩
              case measure => simp [intOf]; omega
            · obtain rfl : i = g := by omega
              have hnn : ¬ (i : Int) < (i : Int) := by omega
              have HL := Hid.mk' (fun W => Least_ok (rowB b i) W (by rw [rowB_len]; omega) (rowB_bit b i))
              have hl2 := (lst_all (rowB_bit b i) (by rw [rowB_len]; omega)).2.1
              rw [rowB_len] at hl2
              have hzp := bt_size (fla (lstM (rowB b i)))
              obtain ⟨np, hnp⟩ : ∃ np, np = (fla (lstM (rowB b i))).length := ⟨_, rfl⟩
              rw [← hnp] at hl2 hzp HNB
              generalize bt (fla (lstM (rowB b i))) = Pp at *
              generalize bt (rowB b i) = S at *
              clear hnp
              have npI : (np : Int) ≤ 100 := by omega
              by_cases hle : np ≤ n
              · have hleI : (np : Int) ≤ (n : Int) := by omega
                rw [if_pos hle] at HNB
                go_wp2_with fail
                refine (HL.out _).mono ?_
                clear HL
                rintro e w5 ⟨rfl, hB5⟩
                have HB5 := Hid.mk' (below_chain HBi.out hB5)
                clear hB5
                go_wp2_with fail
                go_roundw
                case rel => exact ⟨b + 1, by omega, by simp, by rw [HNB.out]; first | (congr 1; done) | (congr 1; omega), HB5⟩
                case measure => simp [intOf]; omega
              · have hleI : ¬ (np : Int) ≤ (n : Int) := by omega
                rw [if_neg hle] at HNB
                go_wp2_with fail
                refine (HL.out _).mono ?_
                clear HL
                rintro e w5 ⟨rfl, hB5⟩
                have HB5 := Hid.mk' (below_chain HBi.out hB5)
                clear hB5
                go_wp2_with fail
                go_roundw
                case rel => exact ⟨b + 1, by omega, by simp, by rw [HNB.out]; congr 1, HB5⟩
                case measure => simp [intOf]; omega
        · obtain rfl : b = Q := by omega
          have hnn : ¬ (b : Int) < (b : Int) := by omega
          go_wp2_with fail
          go_roundw
          case rel => exact ⟨g + 1, by omega, by simp, by rw [HFL.out]; simp, HBb⟩
          case measure => simp [intOf]; omega
    · obtain rfl : g = 4 := by omega
      have hfw : (fewL n 4 : Int) ≤ (K : Int) := by have := HFW.out; omega
      generalize fewL n 4 = F at *
      go_wp2_with fail
      go_ret
      exact ⟨rfl, HB.out⟩
theorem MachineMany_any (a : Nat → Addr) (n : Int) (w : World) (hE : Errs w a) : Calls Tryd.prog 6 #[.int .i64 n] w fun e w' => e = .returned (.bool true) ∧ Below w.heap.size w w' := by
  by_cases h : n < 0 ∨ 16 < n
  · exact Mm_bad a n w hE h
  · obtain ⟨m, rfl⟩ : ∃ m : Nat, n = (m : Int) := ⟨n.toNat, by omega⟩
    rcases Nat.lt_or_ge 6 m with h1 | h1
    · exact Mm_big a m w hE h1 (by omega)
    · exact Mm_small a m w hE h1
end Go.Proofs.YtdfcipdknfebpaaDoor
