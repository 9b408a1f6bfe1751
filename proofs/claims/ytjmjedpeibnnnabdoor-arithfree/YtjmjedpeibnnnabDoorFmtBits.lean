/- internal/strconv.formatBits, FormatInt at base 2. -/
import Derived.Test.YtjmjedpeibnnnabDoorOwn
import Derived.Test.YtjmjedpeibnnnabDoorBitsMath
import Derived.Laws.BytesArg
import Derived.Laws.Bits64b
import Derived.Outline
namespace Go.Proofs.YtjmjedpeibnnnabDoor
open Go.RowKit

theorem isPow_two (w : World) : Calls Tryd.prog 71 #[.int .i64 2] w fun e w' => e = .returned (.bool true) ∧ w' = w := by
  go_enter Tryd.func71, Tryd.ntmps71
  go_wp2_with fail
  go_ret
  exact ⟨rfl, rfl⟩
theorem tz64_two (w : World) (hd : w.cell? ⟨7, 1, none⟩ = some (.int .u8 1)) : Calls Tryd.prog 74 #[.int .u64 2] w fun e w' => e = .returned (.int .i64 1) ∧ w' = w := by
  have h1 : bits BinOp.and IntKind.u64 2 (IntKind.u64.wrap (-2)) = 2 := by decide
  have h2 : IntKind.u64.wrap 571740426102707730 = 571740426102707730 := by decide
  go_enter Tryd.func74, Tryd.ntmps74
  go_wp2_with fail
  go_ret
  exact ⟨rfl, rfl⟩
theorem tz_two (w : World) (hd : w.cell? ⟨7, 1, none⟩ = some (.int .u8 1)) : Calls Tryd.prog 72 #[.int .u64 2] w fun e w' => e = .returned (.int .i64 1) ∧ w' = w := by
  go_enter Tryd.func72, Tryd.ntmps72
  go_wp2_with (first | (go_at_call 74; refine (tz64_two _ hd).mono ?_; rintro e w' ⟨rfl, rfl⟩))
  go_ret
  exact ⟨rfl, rfl⟩
/-- The row of 65 bytes while digits are put into it from behind. -/
structure Digs (w wr : World) (m k : Nat) : Prop where
  below : Below w.heap.size w wr
  cells : ∀ j, j < 65 → ∃ x, wr.cell? ⟨w.heap.size, j, none⟩ = some (.int .u8 x)
  fz : ∀ j, j < 65 → wr.frozen? ⟨w.heap.size, j, none⟩ = false
  dig : ∀ j, j < k → wr.cell? ⟨w.heap.size, 65 - k + j, none⟩ = some (.int .u8 (((bitsL m k).getD j 0).toNat : Int))
theorem zeros65 : Tryd.zeroCells104 = (List.replicate 65 (Value.int .u8 0)).toArray := by kernel_rfl
theorem digs_zero (w : World) (m : Nat) : Digs w (w.alloc (.cells Tryd.zeroCells104 104)) m 0 := by
  refine ⟨(Below.refl _ _).alloc (Nat.le_refl _) _, fun j hj => ⟨0, ?_⟩, fun j _ => World.frozen?_alloc_new w _ _ _, fun j hj => by omega⟩
  rw [World.cell?_alloc_at _ _ _ _ rfl, zeros65, List.getElem?_toArray, List.getElem?_replicate, if_pos hj]
theorem Digs.put {w wr : World} {m k : Nat} (h : Digs w wr m k) (hk : k < 65) : Digs w (wr.setCell ⟨w.heap.size, 65 - (k + 1), none⟩ (.int .u8 (48 + (m / 2 ^ k % 2 : Nat)))) m (k + 1) := by
  obtain ⟨x0, hx0⟩ := h.cells (65 - (k + 1)) (by omega)
  refine ⟨h.below.setCell (Nat.le_refl _) _, fun j hj => ?_, fun j hj => by rw [World.frozen?_setCell]; exact h.fz j hj, fun j hj => ?_⟩
  · by_cases hjk : j = 65 - (k + 1)
    · subst hjk; exact ⟨_, World.cell?_setCell_same _ _ _ hx0⟩
    · obtain ⟨x, hx⟩ := h.cells j hj
      exact ⟨x, by rw [World.cell?_setCell_other _ _ _ _ (fun e => hjk (by have := congrArg Addr.off e; simp at this; omega))]; exact hx⟩
  · rcases j with _ | j
    · rw [show 65 - (k + 1) + 0 = 65 - (k + 1) from rfl, World.cell?_setCell_same _ _ _ hx0, bitsL_front, List.getD_cons_zero]
      rcases Nat.mod_two_eq_zero_or_one (m / 2 ^ k) with hm | hm <;> rw [hm] <;> rfl
    · rw [World.cell?_setCell_other _ _ _ _ (fun e => by have := congrArg Addr.off e; simp at this; try omega)]
      have := h.dig j (by omega)
      rw [show 65 - (k + 1) + (j + 1) = 65 - k + j by omega, this, bitsL_front, List.getD_cons_succ]
theorem digs_text {w wr : World} {m k : Nat} (h : Digs w wr m k) (cap : Nat) : (convert 68 9 (.slice (some ⟨w.heap.size, 65 - k, none⟩) k cap)).run Tryd.prog wr = .ok (.string ⟨(bitsL m k).toArray⟩) wr := by
  have h1 := run_convert_bytes_arg (P := Tryd.prog) wr 68 5 Tryd.underlying68 Tryd.underlying5 w.heap.size (65 - k) k cap ((bitsL m k).map fun c => (c.toNat : Int)) (by rw [List.length_map, bitsL_length]) (fun i hi => by
    rw [h.dig i hi]
    simp [List.getD, bitsL_length, hi]) 9 Tryd.underlying9
  rw [h1, strOfNums, List.map_map, show ((fun n : Int => UInt8.ofNat n.toNat) ∘ fun c : UInt8 => (c.toNat : Int)) = id from funext fun c => by simp, List.map_id]
theorem halve (m k : Nat) : m / 2 ^ k / 2 = m / 2 ^ (k + 1) := by rw [Nat.div_div_eq_div_mul, Nat.pow_succ]
set_option maxRecDepth 100000 in
set_option maxHeartbeats 4000000 in
theorem formatBits_two (m : Nat) (w : World) (hm : m < 4611686018427387904) (hd : w.cell? ⟨7, 1, none⟩ = some (.int .u8 1)) :
    Calls Tryd.prog 64 #[.slice none 0 0, .int .u64 m, .int .i64 2, .bool false, .bool false] w fun e w' => ∃ k, e = .returned (.tuple #[.slice none 0 0, .string ⟨(bitsL m k).toArray⟩]) ∧ 1 ≤ k ∧ m < 2 ^ k ∧ (k = 1 ∨ 2 ^ (k - 1) ≤ m) ∧ Below w.heap.size w w' := by
  have hd1 : ∀ x, (w.alloc x).cell? ⟨7, 1, none⟩ = some (.int .u8 1) := fun x => by rw [World.cell?_alloc_lt _ _ _ (cell_lt hd)]; exact hd
  have HD := Hid.mk' hd1
  clear hd hd1
  have HM := Hid.mk' hm
  clear hm
  go_enter Tryd.func64, Tryd.ntmps64
  go_wp2_with (first
    | (go_at_call 71; refine (isPow_two _).mono ?_; rintro e w' ⟨rfl, rfl⟩)
    | (go_at_call 72; refine (tz_two _ (HD.out _)).mono ?_; rintro e w' ⟨rfl, rfl⟩))
  go_loopw [1, 13] (fun u t wr => ∃ k p q : Nat, k + p = 64 ∧ 3 ≤ p ∧ t = .int .i64 ((p : Int) + 1) ∧ u = .int .u64 (q : Int) ∧ Hid (q = m / 2 ^ k) ∧ Hid (k = 0 ∨ 2 ^ k ≤ m) ∧ Hid (Digs w wr m k)) (fun u _ _ => (intOf u).toNat)
  case atStart => exact ⟨0, 64, m, by omega, by omega, by rfl, rfl, by show m = m / 1; omega, Or.inl rfl, digs_zero w m⟩
  case round =>
    obtain ⟨k, p, q, hkp, hp3, rfl, rfl, HQ, HK, HG⟩ := hrel
    have hq62 : q < 4611686018427387904 := by have := HQ.out; have h5 := HM.out; have : m / 2 ^ k ≤ m := Nat.div_le_self _ _; omega
    have HP : Hid (65 - (k + 1) = p) := by show _ = _; omega
    have hp0 : (0 : Int) ≤ (p : Int) := by omega
    have hp1 : (p : Int) ≤ 64 := by omega
    by_cases h2 : 2 ≤ q
    · have hqI : (2 : Int) ≤ (q : Int) := by omega
      have hq0 : (0 : Int) ≤ (q : Int) := by omega
      have hqm : (q : Int) < 4611686018427387904 := by omega
      obtain ⟨x0, hx0⟩ := HG.out.cells p (by omega)
      have hfz := HG.out.fz p (by omega)
      have hand : bits BinOp.and IntKind.u64 (q : Int) 1 = ((q % 2 : Nat) : Int) := by
        have := bits_and_u64_nat q 1 (by omega) (by omega)
        rwa [Nat.and_one_is_mod] at this
      have HKP := Hid.mk' hkp
      have HN : Hid (2 ^ (k + 1) ≤ m) := by
        have h3 := HQ.out
        have h4 := (Nat.le_div_iff_mul_le (Nat.two_pow_pos k)).1 (show 2 ≤ m / 2 ^ k by omega)
        show _ ≤ _
        rw [Nat.pow_succ]; omega
      have HK2 : Hid (k + 1 ≤ 61) := by
        show _ ≤ _
        refine Classical.byContradiction fun hn => ?_
        have h3 : 2 ^ 62 ≤ 2 ^ (k + 1) := Nat.pow_le_pow_right (by omega) (by omega)
        have h4 := HN.out
        have h5 := HM.out
        omega
      have HPUT : Hid (Digs w (wr.setCell ⟨w.heap.size, p, none⟩ (.int .u8 (48 + (q % 2 : Nat)))) m (k + 1)) := by
        have := HG.out.put (by omega)
        rwa [HP.out, ← HQ.out] at this
      have HH : Hid (q / 2 = m / 2 ^ (k + 1)) := by show _ = _; rw [HQ.out, halve]
      clear hkp
      rcases Nat.mod_two_eq_zero_or_one q with hq2 | hq2
      · rw [hq2] at hand HPUT
        go_wp2_with fail
        exact ⟨⟨k + 1, p - 1, q / 2, by have := HKP.out; omega, by have := HKP.out; have := HK2.out; omega, by go_num, by go_num, HH, Or.inr HN.out, HPUT⟩, by simp [intOf]; omega⟩
      · rw [hq2] at hand HPUT
        go_wp2_with fail
        exact ⟨⟨k + 1, p - 1, q / 2, by have := HKP.out; omega, by have := HKP.out; have := HK2.out; omega, by go_num, by go_num, HH, Or.inr HN.out, HPUT⟩, by simp [intOf]; omega⟩
    · have hq2 : q < 2 := by omega
      have hqI : (q : Int) < 2 := by omega
      obtain ⟨x0, hx0⟩ := HG.out.cells p (by omega)
      have hfz := HG.out.fz p (by omega)
      have HPUT : Hid (Digs w (wr.setCell ⟨w.heap.size, p, none⟩ (.int .u8 (48 + (q % 2 : Nat)))) m (k + 1)) := by
        have := HG.out.put (by omega)
        rwa [HP.out, ← HQ.out] at this
      have HLT : Hid (m < 2 ^ (k + 1)) := by
        show _ < _
        have h3 := HQ.out
        rw [Nat.pow_succ]
        have h4 := (Nat.div_lt_iff_lt_mul (Nat.two_pow_pos k)).1 (show m / 2 ^ k < 2 by omega)
        omega
      have hsl : ∀ W, (Instr.sliceAt 104 (.pointer (some ⟨w.heap.size, 0, none⟩)) (some (.int .i64 (p : Int))) none none).run Tryd.prog W = .ok (.slice (some ⟨w.heap.size, p, none⟩) (k + 1) (k + 1)) W := fun W => by
        have hal : Tryd.prog.arrayLen 104 = 65 := by simp [Program.arrayLen, Tryd.underlying104]
        rw [run_sliceAt_array_l W 104 ⟨w.heap.size, 0, none⟩ (by simp [Program.arrayLen, Program.elem, Tryd.underlying104]) .i64 (p : Int) (by omega) (by rw [hal]; omega)]
        go_simp
        omega
      have hcv := fun cap => digs_text HPUT.out cap
      rw [HP.out] at hcv
      have HKP := Hid.mk' hkp
      clear hkp h2
      have hb0 : (((⟨#[48, 49, 50, 51, 52, 53, 54, 55, 56, 57, 97, 98, 99, 100, 101, 102, 103, 104, 105, 106, 107, 108, 109, 110, 111, 112, 113, 114, 115, 116, 117, 118, 119, 120, 121, 122]⟩ : ByteArray)[0]'(by decide)).toNat : Int) = 48 := rfl
      have hb1 : (((⟨#[48, 49, 50, 51, 52, 53, 54, 55, 56, 57, 97, 98, 99, 100, 101, 102, 103, 104, 105, 106, 107, 108, 109, 110, 111, 112, 113, 114, 115, 116, 117, 118, 119, 120, 121, 122]⟩ : ByteArray)[1]'(by decide)).toNat : Int) = 49 := rfl
      rcases (show q = 0 ∨ q = 1 by omega) with rfl | rfl
      · simp only [Nat.zero_mod, Int.ofNat_zero, Int.add_zero] at hcv HPUT
        go_wp2_with fail
        go_ret2
        exact ⟨k + 1, rfl, by omega, HLT.out, HK.out.imp (fun h0 => by omega) (fun h0 => h0), HPUT.out.below⟩
      · have e1 : (48 : Int) + ((1 % 2 : Nat) : Int) = 49 := rfl
        rw [e1] at hcv HPUT
        clear e1
        go_wp2_with fail
        go_ret2
        exact ⟨k + 1, rfl, by omega, HLT.out, HK.out.imp (fun h0 => by omega) (fun h0 => h0), HPUT.out.below⟩
theorem intFormat_two (m : Nat) (w : World) (hm : m < 4611686018427387904) (hd : w.cell? ⟨7, 1, none⟩ = some (.int .u8 1)) :
    Calls Tryd.prog 50 #[.int .i64 m, .int .i64 2] w fun e w' => ∃ k, e = .returned (.string ⟨(bitsL m k).toArray⟩) ∧ 1 ≤ k ∧ m < 2 ^ k ∧ (k = 1 ∨ 2 ^ (k - 1) ≤ m) ∧ Below w.heap.size w w' := by
  have hf := formatBits_two m w hm hd
  have h0 : (0 : Int) ≤ (m : Int) := by omega
  have h1 : (m : Int) < 4611686018427387904 := by omega
  clear hm hd
  go_enter Tryd.func50, Tryd.ntmps50
  go_wp2_with fail
  refine hf.mono ?_
  clear hf
  rintro e w1 ⟨k, rfl, h2, h3, h4, hb⟩
  go_wp2_with fail
  go_ret
  exact ⟨k, rfl, h2, h3, h4, hb⟩
theorem FormatInt_two (m : Nat) (w : World) (hm : m < 4611686018427387904) (hd : w.cell? ⟨7, 1, none⟩ = some (.int .u8 1)) :
    Calls Tryd.prog 33 #[.int .i64 m, .int .i64 2] w fun e w' => ∃ k, e = .returned (.string ⟨(bitsL m k).toArray⟩) ∧ 1 ≤ k ∧ m < 2 ^ k ∧ (k = 1 ∨ 2 ^ (k - 1) ≤ m) ∧ Below w.heap.size w w' := by
  have hf := intFormat_two m w hm hd
  clear hm hd
  go_enter Tryd.func33, Tryd.ntmps33
  go_wp2_with fail
  refine hf.mono ?_
  clear hf
  rintro e w1 ⟨k, rfl, h2, h3, h4, hb⟩
  go_wp2_with fail
  go_ret
  exact ⟨k, rfl, h2, h3, h4, hb⟩
end Go.Proofs.YtjmjedpeibnnnabDoor
