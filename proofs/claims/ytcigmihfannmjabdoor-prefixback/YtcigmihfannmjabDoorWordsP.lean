/- prefix.Valid, prefix.apart, prefix.Prefix: words of 0 and 1. -/
import Derived.Test.YtcigmihfannmjabDoorBeginsP
import Derived.Test.YtcigmihfannmjabDoorLaysT
namespace Go.Proofs.YtcigmihfannmjabDoor
open Go.RowKit

/-- Is a text of 0 and 1 alone? -/
def bitB (s : ByteArray) : Bool := s.data.toList.all (fun c => [48, 49].contains c)
theorem drop_head (p : UInt8 → Bool) : ∀ (l : List UInt8) (a : UInt8) (t : List UInt8), l.dropWhile p = a :: t → p a = false
  | [], a, t, h => by simp at h
  | x :: l, a, t, h => by
    rw [List.dropWhile_cons] at h
    split at h
    · exact drop_head p l a t h
    · rename_i hx
      obtain ⟨rfl, -⟩ : x = a ∧ l = t := by simpa using h
      simpa using hx
theorem drop_nil (p : UInt8 → Bool) : ∀ (l : List UInt8), l.dropWhile p = [] ↔ ∀ x ∈ l, p x = true
  | [] => by simp
  | x :: l => by
    rw [List.dropWhile_cons]
    split
    · rename_i hx
      rw [drop_nil p l]
      simp [hx]
    · rename_i hx
      simp [hx]
theorem trim_all {l cs : List UInt8} (h : l.all (fun c => cs.contains c) = true) : Lib.trimS l cs = [] := by
  have h1 : Lib.trimRightS l cs = [] := by
    unfold Lib.trimRightS
    rw [List.reverse_eq_nil_iff, drop_nil]
    intro x hx
    exact List.all_eq_true.1 h x (List.mem_reverse.1 hx)
  unfold Lib.trimS
  rw [h1]; rfl
theorem trim_not {l cs : List UInt8} (h : l.all (fun c => cs.contains c) = false) : Lib.trimS l cs ≠ [] := by
  intro h1
  unfold Lib.trimS Lib.trimLeftS Lib.trimRightS at h1
  rw [drop_nil] at h1
  cases hm : l.reverse.dropWhile (cs.contains ·) with
  | nil =>
    rw [drop_nil] at hm
    have : l.all (fun c => cs.contains c) = true := List.all_eq_true.2 fun x hx => hm x (List.mem_reverse.2 hx)
    rw [this] at h; cases h
  | cons a t =>
    have h2 := drop_head _ _ a t hm
    have h3 := h1 a (by rw [hm]; simp)
    have h4 : cs.contains a = false := h2
    rw [h4] at h3; cases h3
theorem trim01 (s : ByteArray) (w : World) (hs : s.size ≤ 1000000) : Calls Tryd.prog 63 #[.string s, .string ⟨#[48, 49]⟩] w fun e w' => e = .returned (.string ⟨(Lib.trimS s.data.toList [48, 49]).toArray⟩) ∧ Below w.heap.size w w' :=
  Any.strings_Trim_laid Tryd.trimA (by kernel_rfl) s ⟨#[48, 49]⟩ w (by omega) (by decide) (ascii_of_all (by decide))
theorem trim_bits (s : ByteArray) (w : World) (hs : s.size ≤ 1000000) (hb : bitB s = true) : Calls Tryd.prog 63 #[.string s, .string ⟨#[48, 49]⟩] w fun e w' => e = .returned (.string ⟨#[]⟩) ∧ Below w.heap.size w w' := by
  have := trim01 s w hs
  rw [trim_all hb] at this
  exact this
theorem trim_other (s : ByteArray) (w : World) (hs : s.size ≤ 1000000) (hb : bitB s = false) : Calls Tryd.prog 63 #[.string s, .string ⟨#[48, 49]⟩] w fun e w' => ∃ t : ByteArray, e = .returned (.string t) ∧ t.toList.isEmpty = false ∧ Below w.heap.size w w' := by
  refine (trim01 s w hs).mono ?_
  rintro e w' ⟨rfl, h⟩
  refine ⟨_, rfl, ?_, h⟩
  rw [ByteArray.toList_eq]
  have := trim_not hb
  cases h2 : Lib.trimS s.data.toList [48, 49] with
  | nil => exact absurd h2 this
  | cons x l => rfl
/-- Does one of n texts have it? -/
def anyB (p : ByteArray → Bool) (f : Nat → ByteArray) : Nat → Bool
  | 0 => false
  | n + 1 => anyB p f n || p (f n)
theorem anyB_no {p : ByteArray → Bool} {f : Nat → ByteArray} : ∀ {n : Nat}, anyB p f n = false ↔ ∀ i, i < n → p (f i) = false
  | 0 => by simp [anyB]
  | n + 1 => by
    simp only [anyB, Bool.or_eq_false_iff, anyB_no (n := n)]
    constructor
    · rintro ⟨h1, h2⟩ i hi
      rcases Nat.lt_or_ge i n with h | h
      · exact h1 i h
      · obtain rfl : i = n := by omega
        exact h2
    · intro h
      exact ⟨fun i hi => h i (by omega), h n (by omega)⟩
theorem anyB_hit {p : ByteArray → Bool} {f : Nat → ByteArray} {n k : Nat} (hk : k < n) (h : p (f k) = true) : anyB p f n = true := by
  cases h1 : anyB p f n with
  | true => rfl
  | false => rw [anyB_no.1 h1 k hk] at h; cases h
def lgP (s : ByteArray) : Bool := decide (64 < s.size)
def otP (s : ByteArray) : Bool := !bitB s
def emP (s : ByteArray) : Bool := s.toList.isEmpty
/-- The error of words, by its number. -/
def wdErr (n : Nat) (f : Nat → ByteArray) : Nat := if 16 < n ∨ anyB lgP f n = true then 2 else if anyB otP f n = true then 1 else if n = 0 ∨ anyB emP f n = true then 3 else 0
theorem wdErr_le (n : Nat) (f : Nat → ByteArray) : wdErr n f ≤ 8 := by unfold wdErr; (repeat' split) <;> omega
theorem wdErr_ok {n : Nat} {f : Nat → ByteArray} (h : wdErr n f = 0) : 0 < n ∧ n ≤ 16 ∧ ∀ i, i < n → (f i).size ≤ 64 ∧ bitB (f i) = true ∧ (f i).toList.isEmpty = false := by
  unfold wdErr at h
  split at h
  · omega
  · rename_i h1
    split at h
    · omega
    · rename_i h2
      split at h
      · omega
      · rename_i h3
        have k1 : anyB lgP f n = false := by cases hh : anyB lgP f n with
          | false => rfl
          | true => exact absurd (Or.inr hh) h1
        have k2 : anyB otP f n = false := by cases hh : anyB otP f n with
          | false => rfl
          | true => exact absurd hh h2
        have k3 : anyB emP f n = false := by cases hh : anyB emP f n with
          | false => rfl
          | true => exact absurd (Or.inr hh) h3
        refine ⟨Nat.pos_of_ne_zero (fun h0 => h3 (Or.inl h0)), Nat.le_of_not_lt (fun h0 => h1 (Or.inl h0)), fun i hi => ⟨?_, ?_, anyB_no.1 k3 i hi⟩⟩
        · have := anyB_no.1 k1 i hi
          unfold lgP at this
          have := of_decide_eq_false this
          omega
        · have := anyB_no.1 k2 i hi
          unfold otP at this
          simpa using this
/-- Texts in memory, at any index. -/
def TxtAt (w : World) (ad : Option Addr) (n : Nat) (f : Nat → ByteArray) : Prop := ∀ i, i < n → ∃ b o, ad = some ⟨b, o, none⟩ ∧ w.cell? ⟨b, o + i, none⟩ = some (.string (f i))
theorem TxtAt.later {w w' : World} {ad : Option Addr} {n : Nat} {f : Nat → ByteArray} (h : TxtAt w ad n f) (hb : Below w.heap.size w w') : TxtAt w' ad n f := fun i hi => by
  obtain ⟨b, o, h1, h2⟩ := h i hi
  exact ⟨b, o, h1, by rw [hb.cell (cell_lt h2)]; exact h2⟩
theorem ret_err {x y : Value} (h : y = x) : Ending.returned x = .returned y := by rw [h]
theorem errV_one (a : Nat → Addr) : errV a 1 = .iface 174 (.pointer (some (a 0))) := rfl
set_option maxRecDepth 100000 in
set_option maxHeartbeats 2000000 in
theorem Valid_any (a : Nat → Addr) (ad : Option Addr) (cap n : Nat) (f : Nat → ByteArray) (w : World) (hE : Errs w a) (h : TxtAt w ad n f) (hn : n ≤ 1000000) :
    Calls Tryd.prog 43 #[.slice ad n cap] w fun e w' => e = .returned (errV a (wdErr n f)) ∧ Below w.heap.size w w' := by
  have HTX := Hid.mk' (fun (W : World) (hb : Below w.heap.size w W) => h.later hb)
  have HE := Hid.mk' (fun (W : World) (hb : Below w.heap.size w W) => hE.below hb)
  have c1 := hE.c1
  have c2 := hE.c2
  clear h hE
  by_cases h16 : 16 < n
  · have hI : (16 : Int) < (n : Int) := by omega
    have HW : Hid (wdErr n f = 2) := by show _ = _; unfold wdErr; rw [if_pos (Or.inl h16)]
    go_enter Tryd.func43, Tryd.ntmps43
    go_wp2_with fail
    go_ret
    exact ⟨ret_err (by rw [HW.out, errV_two]; rfl), Below.refl _ _⟩
  · have hI : (n : Int) ≤ 16 := by omega
    have HW2 : Hid (anyB lgP f n = true → wdErr n f = 2) := fun hh => by unfold wdErr; rw [if_pos (Or.inr hh)]
    have HW1 : Hid (anyB lgP f n = false → anyB otP f n = true → wdErr n f = 1) := fun h0 hh => by
      unfold wdErr; rw [if_neg (by rw [h0]; simp; omega), if_pos hh]
    have HW3 : Hid (anyB lgP f n = false → anyB otP f n = false → (n = 0 ∨ anyB emP f n = true) → wdErr n f = 3) := fun h0 h1 hh => by
      unfold wdErr; rw [if_neg (by rw [h0]; simp; omega), if_neg (by rw [h1]; simp), if_pos hh]
    have HW0 : Hid (anyB lgP f n = false → anyB otP f n = false → 0 < n → anyB emP f n = false → wdErr n f = 0) := fun h0 h1 h2 hh => by
      unfold wdErr; rw [if_neg (by rw [h0]; simp; omega), if_neg (by rw [h1]; simp), if_neg (by rw [hh]; simp; omega)]
    go_enter Tryd.func43, Tryd.ntmps43
    go_wp2_with fail
    go_loopw [15] (fun t wr => ∃ k : Nat, k ≤ n ∧ t = .int .i64 k ∧ wr = w ∧ Hid (anyB lgP f k = false)) (fun t _ => n - (intOf t).toNat)
    case atStart => exact ⟨0, Nat.zero_le _, rfl, rfl, rfl⟩
    case round =>
      obtain ⟨k, hk, rfl, hwr, HL⟩ := hrel
      rw [hwr]
      clear hwr
      have hk0 : (0 : Int) ≤ (k : Int) := by omega
      rcases Nat.lt_or_ge k n with h1 | h1
      · have hkI : (k : Int) < (n : Int) := by omega
        obtain ⟨b, o, rfl, y0⟩ := HTX.out _ (Below.refl _ _) k h1
        cases hl : lgP (f k) with
        | true =>
          have HV := Hid.mk' (HW2.out (anyB_hit h1 hl))
          have hs : (64 : Int) < ((f k).size : Int) := by have := of_decide_eq_true (show decide (64 < (f k).size) = true from hl); omega
          clear hl
          generalize f k = x at *
          go_wp2_with fail
          go_ret
          exact ⟨ret_err (by rw [HV.out, errV_two]; rfl), Below.refl _ _⟩
        | false =>
          have HL1 : Hid (anyB lgP f (k + 1) = false) := by show _ = _; rw [anyB, HL.out, hl]; rfl
          have hs : ((f k).size : Int) ≤ 64 := by have := of_decide_eq_false (show decide (64 < (f k).size) = false from hl); omega
          clear hl
          generalize f k = x at *
          go_wp2_with fail
          exact ⟨⟨k + 1, h1, by go_num, trivial, HL1⟩, by simp [intOf]; omega⟩
      · obtain rfl : n = k := by omega
        clear HW2
        go_wp2_with fail
        go_loopw [26] (fun t wr => ∃ k : Nat, k ≤ n ∧ t = .int .i64 k ∧ Hid (Below w.heap.size w wr) ∧ Hid (anyB otP f k = false)) (fun t _ => n - (intOf t).toNat)
        case atStart => exact ⟨0, Nat.zero_le _, rfl, Below.refl _ _, rfl⟩
        case round =>
          obtain ⟨k, hk, rfl, HB, HO⟩ := hrel
          have hk0 : (0 : Int) ≤ (k : Int) := by omega
          rcases Nat.lt_or_ge k n with h1 | h1
          · have hkI : (k : Int) < (n : Int) := by omega
            obtain ⟨b, o, rfl, y0⟩ := HTX.out _ HB.out k h1
            have hs : (f k).size ≤ 1000000 := by have := of_decide_eq_false (show decide (64 < (f k).size) = false from anyB_no.1 HL.out k h1); omega
            cases hl : bitB (f k) with
            | false =>
              have HV := Hid.mk' (HW1.out HL.out (anyB_hit h1 (show (!bitB (f k)) = true by rw [hl]; rfl)))
              have ht := trim_other (f k) wr hs hl
              clear hl hs
              generalize f k = x at *
              go_wp2_with fail
              refine ht.mono ?_
              rintro e w1 ⟨s1, rfl, hs1, hb1⟩
              have HB1 := Hid.mk' (below_chain HB.out hb1)
              have c0 := (HE.out _ HB1.out).c0
              clear hb1 ht
              go_wp2_with fail
              go_ret
              exact ⟨ret_err (by rw [HV.out, errV_one]; rfl), HB1.out⟩
            | true =>
              have HO1 : Hid (anyB otP f (k + 1) = false) := by show _ = _; rw [anyB, HO.out, otP, hl]; rfl
              have ht := trim_bits (f k) wr hs hl
              clear hl hs
              generalize f k = x at *
              go_wp2_with fail
              refine ht.mono ?_
              rintro e w1 ⟨rfl, hb1⟩
              have HB1 := Hid.mk' (below_chain HB.out hb1)
              clear hb1 ht
              go_wp2_with fail
              exact ⟨⟨k + 1, h1, by go_num, HB1, HO1⟩, by simp [intOf]; omega⟩
          · obtain rfl : n = k := by omega
            clear HW1
            rcases Nat.eq_zero_or_pos n with h0 | h0
            · have HV := Hid.mk' (HW3.out HL.out HO.out (Or.inl h0))
              have hz : ((n : Int) == 0) = true := by rw [h0]; rfl
              have hnz : (n : Int) = 0 := by omega
              have c2' := (HE.out _ HB.out).c2
              clear h0
              go_wp2_with fail
              go_ret
              exact ⟨ret_err (by rw [HV.out, errV_three]; rfl), HB.out⟩
            · have hz : ((n : Int) == 0) = false := by rw [beq_eq_false_iff_ne]; omega
              have hnz : ¬ ((n : Int) = 0) := by omega
              go_wp2_with fail
              obtain ⟨wy, rfl⟩ : ∃ wy, wy = wr := ⟨_, rfl⟩
              go_loopw [41] (fun t wx => ∃ k : Nat, k ≤ n ∧ t = .int .i64 k ∧ wx = wy ∧ Hid (anyB emP f k = false)) (fun t _ => n - (intOf t).toNat)
              case atStart => exact ⟨0, Nat.zero_le _, rfl, rfl, rfl⟩
              case round =>
                obtain ⟨k, hk, rfl, hwr, HM⟩ := hrel
                rw [hwr]
                clear hwr
                have hk0 : (0 : Int) ≤ (k : Int) := by omega
                rcases Nat.lt_or_ge k n with h1 | h1
                · have hkI : (k : Int) < (n : Int) := by omega
                  obtain ⟨b, o, rfl, y0⟩ := HTX.out _ HB.out k h1
                  cases hl : (f k).toList.isEmpty with
                  | true =>
                    have HV := Hid.mk' (HW3.out HL.out HO.out (Or.inr (anyB_hit h1 (show emP (f k) = true from hl))))
                    have c2' := (HE.out _ HB.out).c2
                    generalize f k = x at *
                    go_wp2_with fail
                    go_ret
                    exact ⟨ret_err (by rw [HV.out, errV_three]; rfl), HB.out⟩
                  | false =>
                    have HM1 : Hid (anyB emP f (k + 1) = false) := by show _ = _; rw [anyB, HM.out, emP, hl]; rfl
                    generalize f k = x at *
                    go_wp2_with fail
                    exact ⟨⟨k + 1, h1, by go_num, trivial, HM1⟩, by simp [intOf]; omega⟩
                · obtain rfl : n = k := by omega
                  have HV := Hid.mk' (HW0.out HL.out HO.out h0 HM.out)
                  go_wp2_with fail
                  go_ret
                  exact ⟨ret_err (by rw [HV.out, errV_zero]; rfl), HB.out⟩
end Go.Proofs.YtcigmihfannmjabDoor
