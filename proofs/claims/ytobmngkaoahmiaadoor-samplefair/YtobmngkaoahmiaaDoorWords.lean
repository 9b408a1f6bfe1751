/- The program's numbers without a bound, by words of 64 bits: NatOf, Times, TimesPower, Cmp. -/
import Derived.Test.YtobmngkaoahmiaaDoorWordMath
import Derived.Test.YtobmngkaoahmiaaDoorSides
import Derived.Test.YtobmngkaoahmiaaDoorLaysB
import Derived.OwnWalk
import Derived.Laws.Externs
namespace Go.Proofs.YtobmngkaoahmiaaDoor
open Go.RowKit

theorem bitLen_same : ∀ x : Nat, x < 18446744073709551616 → Lib.bitLen x = bitLen x := by
  intro x
  induction x using Nat.strongRecOn with
  | _ x ih =>
    intro h
    rcases Nat.eq_zero_or_pos x with rfl | hp
    · rw [bitLen_zero]; rfl
    · rw [Lib.bitLen_half x (by omega) h, bitLen_half hp, ih (x / 2) (by omega) (by omega)]
      omega
theorem Len_any (x : Nat) (w : World) (h : x < 18446744073709551616) :
    Calls Tryd.prog 72 #[.int .u64 x] w fun e w' => e = .returned (.int .i64 (bitLen x : Nat)) ∧ w' = w :=
  (Any.bits_Len Tryd.lenA x w (by omega) (by omega)).mono fun e w' ⟨he, hw⟩ => ⟨by rw [he]; simp [bitLen_same x h], hw⟩
theorem Len64_any (x : Nat) (w : World) (h : x < 18446744073709551616) :
    Calls Tryd.prog 94 #[.int .u64 x] w fun e w' => e = .returned (.int .i64 (bitLen x : Nat)) ∧ w' = w :=
  (Any.bits_Len64 Tryd.len64A x w (by omega) (by omega)).mono fun e w' ⟨he, hw⟩ => ⟨by rw [he]; simp [bitLen_same x h], hw⟩

theorem mask_mod (z : Int) : bits .and .u64 (z % 18446744073709551616) 4294967295 = z % 18446744073709551616 % 4294967296 := by
  refine and_low32 _ ?_ ?_ <;> omega

/-- A slice of words. -/
def WordsAt (w : World) (v : Value) (l : List Nat) : Prop := (∃ ad cap, v = .slice ad 0 cap ∧ l = []) ∨ ∃ b o cap, v = .slice (some ⟨b, o, none⟩) l.length cap ∧ l.length ≤ cap ∧ 0 < l.length ∧ ∀ i, i < l.length → w.cell? ⟨b, o + i, none⟩ = some (.int .u64 ((l.getD i 0 : Nat) : Int))
theorem WordsAt.later {w w' : World} {v : Value} {l : List Nat} (h : WordsAt w v l) (hb : Below w.heap.size w w') : WordsAt w' v l := by
  rcases h with h | ⟨b, o, cap, h1, h2, h3, h4⟩
  · exact Or.inl h
  · exact Or.inr ⟨b, o, cap, h1, h2, h3, fun i hi => by rw [hb.cell (cell_lt (h4 i hi))]; exact h4 i hi⟩
/-- A number without a bound. -/
def NatAt (w : World) (v : Value) (n : Nat) : Prop := ∃ l, Wrd l ∧ NoEnd l ∧ wv l = n ∧ WordsAt w v l
theorem NatAt.later {w w' : World} {v : Value} {n : Nat} (h : NatAt w v n) (hb : Below w.heap.size w w') : NatAt w' v n := by
  obtain ⟨l, h1, h2, h3, h4⟩ := h
  exact ⟨l, h1, h2, h3, h4.later hb⟩
theorem WordsAt.form {w : World} {v : Value} {l : List Nat} (h : WordsAt w v l) : ∃ ad cap, v = .slice ad l.length cap := by
  rcases h with ⟨ad, cap, rfl, rfl⟩ | ⟨b, o, cap, rfl, _⟩
  · exact ⟨_, _, rfl⟩
  · exact ⟨_, _, rfl⟩
theorem WordsAt.cellAt {w : World} {ad : Option Addr} {n cap : Nat} {l : List Nat} (h : WordsAt w (.slice ad n cap) l) {k : Nat} (hk : k < l.length) : ∃ b o, ad = some ⟨b, o, none⟩ ∧ w.cell? ⟨b, o + k, none⟩ = some (.int .u64 ((l.getD k 0 : Nat) : Int)) := by
  rcases h with ⟨_, _, _, rfl⟩ | ⟨b, o, c, h1, _, _, h4⟩
  · simp at hk
  · simp only [Value.slice.injEq] at h1
    exact ⟨b, o, h1.1, h4 k hk⟩
/-- Words as cells. -/
def wordCells (l : List Nat) : List Value := l.map fun d => .int .u64 ((d : Nat) : Int)
theorem wordCells_push (l : List Nat) (d : Nat) : wordCells (l ++ [d]) = wordCells l ++ [.int .u64 (d : Int)] := by simp [wordCells]
theorem wordsAt_of_row {w : World} {base : Nat} {v : Value} {l : List Nat} (h : w.ownsRow base 135 1 v l.length (wordCells l)) : WordsAt w v l := by
  obtain ⟨hl, hr⟩ := h
  rcases hr with ⟨rfl, h0⟩ | ⟨g, cap, cur, rfl, hg, hh, h1, h2, h3, h4⟩
  · exact Or.inl ⟨none, 0, by rfl, List.eq_nil_of_length_eq_zero h0⟩
  · rcases Nat.eq_zero_or_pos l.length with h0 | hpos
    · exact Or.inl ⟨_, _, by rw [h0], List.eq_nil_of_length_eq_zero h0⟩
    · refine Or.inr ⟨g, 0, cap, rfl, h1, hpos, fun i hi => ?_⟩
      have e1 : w.cell? ⟨g, 0 + i, none⟩ = cur.toList[i]? := by simp [World.cell?, hh]
      have e2 : cur.toList[i]? = (wordCells l)[i]? := by rw [← h4, List.getElem?_take_of_lt (by omega)]
      rw [e1, e2]
      simp [wordCells, hi]

theorem Tryd.infoWord : (Tryd.prog.info? 135).map (fun i => (i.zero, i.size, i.bytes)) = some (some (.int .u64 0), 1, 8) := by kernel_rfl

theorem noEnd_of_le {l : List Nat} (hw : Wrd l) (hp : 0 < l.length) (h : 18446744073709551616 ^ (l.length - 1) ≤ wv l) : NoEnd l := fun i hi => by
  intro h0
  have h1 := wv_take_succ l i (by omega)
  rw [h0, Nat.mul_zero, Nat.add_zero, hi, List.take_length] at h1
  have h2 := wv_lt _ (hw.take i)
  rw [List.length_take, Nat.min_eq_left (by omega)] at h2
  rw [show l.length - 1 = i by omega] at h
  omega
theorem times_step {l x : List Nat} {m k c t : Nat} (hl : l.length = k) (hk : k < x.length) (ht : t = x.getD k 0 * m + c) (h : wv l + 18446744073709551616 ^ k * c = wv (x.take k) * m) :
    wv (l ++ [t % 18446744073709551616]) + 18446744073709551616 ^ (k + 1) * (t / 18446744073709551616) = wv (x.take (k + 1)) * m := by
  rw [wv_append, wv_single, hl, Nat.pow_succ, Nat.add_assoc, Nat.mul_assoc, ← Nat.mul_add, Nat.mod_add_div, wv_take_succ x k hk, Nat.add_mul, ← h, ht]
  grind
theorem carry_parts {d m c : Nat} (hd : d < 18446744073709551616) (hm : m < 18446744073709551616) (hc : c < 18446744073709551616) :
    d * m / 18446744073709551616 + (d * m % 18446744073709551616 + c) / 18446744073709551616 = (d * m + c) / 18446744073709551616 ∧ (d * m % 18446744073709551616 + c) % 18446744073709551616 = (d * m + c) % 18446744073709551616 ∧ (d * m + c) / 18446744073709551616 < 18446744073709551616 ∧ d * m / 18446744073709551616 < 18446744073709551616 := by
  have h := Nat.mul_le_mul (show d ≤ 18446744073709551615 by omega) (show m ≤ 18446744073709551615 by omega)
  generalize d * m = z at *
  refine ⟨by omega, by omega, by omega, by omega⟩

theorem power_gather {a g q i t : Nat} (h : a * g = t * q ^ i) : a * (g * q) = t * q ^ (i + 1) := by
  rw [← Nat.mul_assoc, h, Nat.pow_succ, Nat.mul_assoc]
theorem power_flush {a g q i t : Nat} (h : a * g = t * q ^ i) : (a * g) * q = t * q ^ (i + 1) := by
  rw [h, Nat.pow_succ, Nat.mul_assoc]

end Go.Proofs.YtobmngkaoahmiaaDoor
