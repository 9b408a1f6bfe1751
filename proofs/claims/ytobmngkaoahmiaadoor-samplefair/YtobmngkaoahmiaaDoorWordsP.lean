/- Texts of 0 and 1: strings.Trim. -/
import Derived.Test.YtobmngkaoahmiaaDoorOwn
import Derived.Test.YtobmngkaoahmiaaDoorLaysT
namespace Go.Proofs.YtobmngkaoahmiaaDoor
open Go.RowKit

/-- Is a text of 0 and 1 alone? -/
def bitB (s : ByteArray) : Bool := s.data.toList.all (fun c => [48, 49].contains c)
theorem drop_head (p : UInt8 → Bool) : ∀ (l : List UInt8) (a : UInt8) (t : List UInt8), l.dropWhile p = a :: t → p a = false
  | [], a, t, h => by simp at h
  | x :: l, a, t, h => by
    rw [List.dropWhile_cons] at h
    split at h
    · exact drop_head p l a t h
    · rename_i hx
      obtain ⟨rfl, -⟩ : x = a ∧ l = t := by simpa using h
      simpa using hx
theorem drop_nil (p : UInt8 → Bool) : ∀ (l : List UInt8), l.dropWhile p = [] ↔ ∀ x ∈ l, p x = true
  | [] => by simp
  | x :: l => by
    rw [List.dropWhile_cons]
    split
    · rename_i hx
      rw [drop_nil p l]
      simp [hx]
    · rename_i hx
      simp [hx]
theorem trim_all {l cs : List UInt8} (h : l.all (fun c => cs.contains c) = true) : Lib.trimS l cs = [] := by
  have h1 : Lib.trimRightS l cs = [] := by
    unfold Lib.trimRightS
    rw [List.reverse_eq_nil_iff, drop_nil]
    intro x hx
    exact List.all_eq_true.1 h x (List.mem_reverse.1 hx)
  unfold Lib.trimS
  rw [h1]; rfl
theorem trim_not {l cs : List UInt8} (h : l.all (fun c => cs.contains c) = false) : Lib.trimS l cs ≠ [] := by
  intro h1
  unfold Lib.trimS Lib.trimLeftS Lib.trimRightS at h1
  rw [drop_nil] at h1
  cases hm : l.reverse.dropWhile (cs.contains ·) with
  | nil =>
    rw [drop_nil] at hm
    have : l.all (fun c => cs.contains c) = true := List.all_eq_true.2 fun x hx => hm x (List.mem_reverse.2 hx)
    rw [this] at h; cases h
  | cons a t =>
    have h2 := drop_head _ _ a t hm
    have h3 := h1 a (by rw [hm]; simp)
    have h4 : cs.contains a = false := h2
    rw [h4] at h3; cases h3
theorem trim01 (s : ByteArray) (w : World) (hs : s.size ≤ 1000000) : Calls Tryd.prog 71 #[.string s, .string ⟨#[48, 49]⟩] w fun e w' => e = .returned (.string ⟨(Lib.trimS s.data.toList [48, 49]).toArray⟩) ∧ Below w.heap.size w w' :=
  Any.strings_Trim_laid Tryd.trimA (by kernel_rfl) s ⟨#[48, 49]⟩ w (by omega) (by decide) (ascii_of_all (by decide))
theorem trim_bits (s : ByteArray) (w : World) (hs : s.size ≤ 1000000) (hb : bitB s = true) : Calls Tryd.prog 71 #[.string s, .string ⟨#[48, 49]⟩] w fun e w' => e = .returned (.string ⟨#[]⟩) ∧ Below w.heap.size w w' := by
  have := trim01 s w hs
  rw [trim_all hb] at this
  exact this
theorem trim_other (s : ByteArray) (w : World) (hs : s.size ≤ 1000000) (hb : bitB s = false) : Calls Tryd.prog 71 #[.string s, .string ⟨#[48, 49]⟩] w fun e w' => ∃ t : ByteArray, e = .returned (.string t) ∧ t.toList.isEmpty = false ∧ Below w.heap.size w w' := by
  refine (trim01 s w hs).mono ?_
  rintro e w' ⟨rfl, h⟩
  refine ⟨_, rfl, ?_, h⟩
  rw [ByteArray.toList_eq]
  have := trim_not hb
  cases h2 : Lib.trimS s.data.toList [48, 49] with
  | nil => exact absurd h2 this
  | cons x l => rfl
end Go.Proofs.YtobmngkaoahmiaaDoor
