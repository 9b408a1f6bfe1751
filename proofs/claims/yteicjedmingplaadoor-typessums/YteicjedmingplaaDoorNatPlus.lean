/- The program's sums, differences and products of numbers without a bound. -/
import Derived.Test.YteicjedmingplaaDoorNatMath
import Derived.Test.YteicjedmingplaaDoorShift
import Derived.Shelf.Spec.BitsCarry
import Derived.Laws.Bits64b
namespace Go.Proofs.YteicjedmingplaaDoor
open Go.RowKit

theorem Add64_carry (x y c : Nat) (w : World) (hc : c ≤ 1) :
    (callFunc 62 #[.int .u64 x, .int .u64 y, .int .u64 c]).run Tryd.prog w =
      .ok (.value (.tuple #[.int .u64 (((x + y + c) % 18446744073709551616 : Nat) : Int), .int .u64 (((x + y + c) / 18446744073709551616 : Nat) : Int)])) w := by
  rw [run_callFunc_extern Tryd.func62 (by kernel_rfl) (by kernel_rfl) (by kernel_rfl) (e := add64Entry) (by kernel_rfl), run_add64 x y c (by omega) (by omega) (by omega) (by omega)]
  simp only [Result.andThen]
  congr 5 <;> omega
theorem Sub64_borrow (x y c : Nat) (w : World) (hc : c ≤ 1) :
    (callFunc 84 #[.int .u64 x, .int .u64 y, .int .u64 c]).run Tryd.prog w =
      .ok (.value (.tuple #[.int .u64 (((x + 18446744073709551616 - y - c) % 18446744073709551616 : Nat) : Int), .int .u64 ((if x < y + c then 1 else 0 : Nat) : Int)])) w := by
  rw [run_callFunc_extern Tryd.func84 (by kernel_rfl) (by kernel_rfl) (by kernel_rfl) (e := sub64Entry) (by kernel_rfl), run_sub64 x y c hc]
  rfl

theorem word_any (u : Value) (x : List Nat) (k : Nat) (w : World) (h : WordsAt w u x) (_ : x.length ≤ 1000001) (_ : k ≤ 1000001) :
    Calls Tryd.prog 85 #[u, .int .i64 k] w fun e w' => e = .returned (.int .u64 ((x.getD k 0 : Nat) : Int)) ∧ w' = w := by
  obtain ⟨ad, cap, rfl⟩ := h.form
  rcases Nat.lt_or_ge k x.length with hlt | hge
  · obtain ⟨b, o, rfl, hc⟩ := h.cellAt hlt
    have hi : (k : Int) < (x.length : Int) := by omega
    have h0 : (0 : Int) ≤ (k : Int) := by omega
    generalize x.getD k 0 = d at *
    go_enter Tryd.func85, Tryd.ntmps85
    go_wp2_with fail
    go_ret
    exact ⟨rfl, rfl⟩
  · have hi : ¬ (k : Int) < (x.length : Int) := by omega
    have hz : x.getD k 0 = 0 := by rw [List.getD_eq_getElem?_getD, List.getElem?_eq_none hge]; rfl
    rw [hz]
    go_enter Tryd.func85, Tryd.ntmps85
    go_wp2_with fail
    go_ret
    exact ⟨rfl, rfl⟩

theorem getD_lt {l : List Nat} (h : Wrd l) (k : Nat) : l.getD k 0 < 18446744073709551616 := by
  rcases Nat.lt_or_ge k l.length with h' | h'
  · exact h k h'
  · rw [List.getD_eq_getElem?_getD, List.getElem?_eq_none h']; decide

/-- A number whose words lie in a new block. -/
def NatNew (B : Nat) (w : World) (v : Value) (n : Nat) : Prop := NatAt w v n ∧ ∀ b o l c, v = .slice (some ⟨b, o, none⟩) l c → 0 < l → B ≤ b
theorem new_row {w : World} {base : Nat} {t : TypeId} {v : Value} {k : Nat} {xs : List Value} (h : w.ownsRow base t 1 v k xs) : ∀ b o l c, v = .slice (some ⟨b, o, none⟩) l c → 0 < l → base ≤ b := fun b o l c hv hl => by
  rcases h.2 with ⟨hx, _⟩ | ⟨g, cap, cur, hx, hg, _⟩
  · rw [hv] at hx; simp at hx
  · rw [hv] at hx
    simp only [Value.slice.injEq, Option.some.injEq, Addr.mk.injEq, and_true] at hx
    omega
/-- Words that are made and filled. -/
structure WFill (w wr : World) (g : Nat) (l : List Nat) : Prop where
  row : ∀ i, i < l.length → wr.cell? ⟨g, i, none⟩ = some (.int .u64 ((l.getD i 0 : Nat) : Int))
  fz : ∀ i, i < l.length → wr.frozen? ⟨g, i, none⟩ = false
  below : Below w.heap.size w wr
  hg : w.heap.size ≤ g
theorem WFill.set {w wr : World} {g : Nat} {l : List Nat} (h : WFill w wr g l) {j : Nat} (hj : j < l.length) (d : Nat) : WFill w (wr.setCell ⟨g, j, none⟩ (.int .u64 (d : Int))) g (l.set j d) := by
  refine ⟨fun i hi => ?_, fun i hi => ?_, h.below.setCell h.hg _, h.hg⟩
  · rw [List.length_set] at hi
    rw [getD_set l j d i hj]
    by_cases hij : i = j
    · subst hij
      rw [if_pos rfl]
      exact World.cell?_setCell_same _ _ _ (h.row i hi)
    · rw [if_neg hij, World.cell?_setCell_other _ _ _ _ (fun e => hij (by have := congrArg Addr.off e; simp at this; omega))]
      exact h.row i hi
  · rw [List.length_set] at hi
    rw [World.frozen?_setCell]
    exact h.fz i hi
theorem made_word (n i : Nat) (hi : i < n) : (madeCells (Value.int IntKind.u64 0).cells (n * 1)).toList[i]? = some (.int .u64 0) := by
  simp [madeCells, hi, Nat.mod_one, Value.cells]
theorem wfill_made {w w2 : World} {g n : Nat} {t : TypeId} {xs : List Value} (h : w2.ownsRow w.heap.size t 1 (.slice (some ⟨g, 0, none⟩) n n) n xs) (hx : ∀ i, i < n → xs[i]? = some (.int .u64 0)) (hg : w.grownBy w2 none) : WFill w w2 g (List.replicate n 0) := by
  obtain ⟨hl, hr⟩ := h
  rcases hr with ⟨hx, _⟩ | ⟨g', cap', cur, hv, hb, hh, _, _, hs, ht⟩
  · cases hx
  · obtain ⟨rfl, rfl⟩ : g = g' ∧ n = cap' := by simpa using hv
    refine ⟨fun i hi => ?_, fun i hi => ?_, (Below.refl _ _).grown hg (Nat.le_refl _) (fun k hk => by cases hk), hb⟩
    · rw [List.length_replicate] at hi
      have e : (List.replicate n 0).getD i 0 = 0 := by rw [List.getD_eq_getElem?_getD]; simp [hi]
      rw [e]
      have := hx i hi
      rw [← ht, List.getElem?_take_of_lt (by omega)] at this
      show _ = some (Value.int IntKind.u64 0)
      rw [← this]
      simp [World.cell?, hh]
    · rw [List.length_replicate] at hi
      simp [World.frozen?, hh]
theorem WFill.words {w wr : World} {g n cap : Nat} {l : List Nat} (h : WFill w wr g l) (hn : n ≤ l.length) (hc : n ≤ cap) : WordsAt wr (.slice (some ⟨g, 0, none⟩) n cap) (l.take n) := by
  rcases Nat.eq_zero_or_pos n with rfl | hp
  · exact Or.inl ⟨_, _, rfl, by simp⟩
  · have hl : (l.take n).length = n := by rw [List.length_take]; omega
    refine Or.inr ⟨g, 0, cap, by rw [hl], by omega, by omega, fun i hi => ?_⟩
    rw [Nat.zero_add, wgetD_take (by omega)]
    exact h.row i (by omega)

end Go.Proofs.YteicjedmingplaaDoor
