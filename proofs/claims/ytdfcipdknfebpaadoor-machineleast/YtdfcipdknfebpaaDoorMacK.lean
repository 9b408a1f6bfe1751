/- The least programs: what the kernel finds when it looks through all of them. -/
import Derived.Test.YtdfcipdknfebpaaDoorMacL
namespace Go.Proofs.YtdfcipdknfebpaaDoor

theorem lvl_take (n : Nat) : ∀ m, (lvl (n + m)).1.take n = (lvl n).1
  | 0 => by rw [Nat.add_zero]; exact List.take_of_length_le (by rw [lvl_len]; exact Nat.le_refl _)
  | m + 1 => by
    show ((lvl (n + m)).1 ++ [_]).take n = _
    rw [List.take_append_of_le_length (by rw [lvl_len]; omega)]
    exact lvl_take n m
/-- Programs: shorter ones first, those of one length in order of bytes. -/
def slP (p q : Pg) : Bool := if (fla p).length < (fla q).length then true else if (fla p).length = (fla q).length then !ltP q p else false
def oksG : Pg → List UInt8 → Bool
  | [], _ => true
  | k :: p, s => if (mD k s).length ≤ 24 then oksG p (mD k s) else false
/-- All texts of n signs. -/
def bitsOf : Nat → List (List UInt8)
  | 0 => [[]]
  | n + 1 => (bitsOf n).flatMap fun x => [48 :: x, 49 :: x]
def chkS (L : List (List Pg)) : Bool := (List.range 17).all fun n => let l := lonS (L.take n) n; srtd l && decide (l.length ≤ 1000)
def chkE (L : List (List Pg)) : Bool := L.flatten.all fun p => decide ((fla p).length ≤ 16) && decide ((stp p).length ≤ 24)
def chkC (T : MT) (L : List (List Pg)) : Bool := L.flatten.all fun p => six.all fun k => if (fla p).length + (mW k).length ≤ 16 then (if (stp (p ++ [k])).length ≤ 24 then (match T.get (stp (p ++ [k])) with | some q => slP q (p ++ [k]) | .none => false) else true) else true
def chkT (T : MT) : Bool := (List.range 9).all fun m => (bitsOf m).all fun x => match T.get x with
  | some p => decide ((fla p).length ≤ 2 * m) && oksG p [] && decide (stp p = x) && (if m ≤ 4 then (match T.get (x ++ x) with | some q => decide ((fla q).length ≤ (fla p).length + 3) | .none => false) else true)
  | .none => false
def manyM (E : List Pg) (n : Nat) : Nat := ((E.takeWhile fun p => decide ((fla p).length ≤ n)).filter fun p => decide ((stp p).length ≤ 8)).length
set_option maxRecDepth 100000 in
theorem looked : (chkS (lvl 17).1 && chkE (lvl 17).1 && chkC (lvl 17).2 (lvl 17).1 && chkT (lvl 17).2 && decide ((List.range 17).map (manyM (lvl 17).1.flatten) = [1, 1, 3, 3, 7, 7, 15, 19, 31, 47, 75, 117, 159, 217, 301, 355, 511])) = true := by decide +kernel
end Go.Proofs.YtdfcipdknfebpaaDoor
