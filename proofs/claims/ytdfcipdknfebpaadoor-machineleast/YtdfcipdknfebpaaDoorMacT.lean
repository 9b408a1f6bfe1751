/- machine.turned, machine.parts, and what the closure of machine.split asks. -/
import Derived.Test.YtdfcipdknfebpaaDoorMacP2
import Derived.Test.YtdfcipdknfebpaaDoorMacL
import Derived.Test.YtdfcipdknfebpaaDoorLaysR
import Derived.Test.YtdfcipdknfebpaaDoorLaysP
import Derived.Test.YtdfcipdknfebpaaDoorLaysQ
import Derived.Lib.OwnBridge
namespace Go.Proofs.YtdfcipdknfebpaaDoor
open Go.RowKit

def encB (c : UInt8) : Value := .int .u8 ((c.toNat : Nat) : Int)
theorem bys_holds {W : World} {b : Nat} {l : List UInt8} : BysAt W b l ↔ Sort.Holds encB W b 0 l.toArray := by
  constructor
  · intro h j hj
    have hj' : j < l.length := by simpa using hj
    have := h j l[j] (List.getElem?_eq_getElem hj')
    rw [Nat.zero_add, getElem!_pos l.toArray j (by simpa using hj')]
    simpa [encB] using this
  · intro h j c hj
    obtain ⟨hl, rfl⟩ := List.getElem?_eq_some_iff.1 hj
    have := h j (by simpa using hl)
    rw [Nat.zero_add, getElem!_pos l.toArray j (by simpa using hl)] at this
    simpa [encB] using this
set_option maxRecDepth 100000 in
theorem part3_any (s : List UInt8) (w : World) (hs : s.length ≤ 1000000) : Calls Tryd.prog 43 #[.string (bt s)] w fun e w' => e = .returned (.string (bt (mD 3 s))) ∧ Below w.heap.size w w' := by
  have hconv := bys_made w s
  obtain ⟨W1, hW1⟩ : ∃ W1, W1 = Lib.bytesWorld w 5 (bt s) := ⟨_, rfl⟩
  have hB1 : Below w.heap.size w W1 := by rw [hW1]; exact bys_below w _
  have hA1 : BysAt W1 w.heap.size s := by rw [hW1]; exact bys_new w s
  rw [← hW1] at hconv
  clear hW1
  generalize grownCap w s.length 0 5 = cap at *
  have hR : Calls Tryd.prog 60 #[.slice (some ⟨w.heap.size, 0, none⟩) s.length cap] W1 fun e w' => e = .returned (.tuple #[]) ∧ BysAt w' w.heap.size s.reverse ∧ Below w.heap.size w w' := by
    refine (AnyE.slices_Reverse Tryd.reverseA encB (fun _ => rfl) w.heap.size 0 cap s W1 (bys_holds.1 hA1) (by omega)).mono ?_
    rintro e w' ⟨rfl, q, rfl⟩
    refine ⟨rfl, bys_holds.2 ?_, Lib.below_putRow hB1 (Nat.le_refl _)⟩
    exact Sort.holds_putRow encB _ _ _ s.toArray _ (Sort.holds_ahead encB W1 q _ _ _ (bys_holds.1 hA1)) (by simp)
  have HBK : Hid (∀ W l, BysAt W w.heap.size l → l.length = s.length → (convert 58 9 (.slice (some ⟨w.heap.size, 0, none⟩) s.length cap)).run Tryd.prog W = .ok (.string (bt l)) W) := fun W l h1 h2 => bys_text h1 h2
  have HRL : Hid (s.reverse.length = s.length) := List.length_reverse
  clear hA1 hB1
  obtain ⟨n, hn⟩ : ∃ n, n = s.length := ⟨_, rfl⟩
  rw [← hn] at hconv HBK hs hR HRL
  clear hn
  generalize bt s = B at *
  have hRH := Hid.mk' hR
  clear hR
  go_enter Tryd.func43, Tryd.ntmps43
  go_wp2_with fail
  refine hRH.out.mono ?_
  clear hRH hconv
  rintro e w2 ⟨rfl, hA2, hB2⟩
  have hbk := HBK.out w2 _ hA2 HRL.out
  have HB2 := Hid.mk' hB2
  clear hA2 hB2
  go_wp2_with fail
  go_ret
  exact ⟨rfl, HB2.out⟩

/-- The number of a part's function. -/
def mFn (k : Fin 6) : Nat := if k.val = 0 then 40 else if k.val = 1 then 41 else if k.val = 2 then 42 else if k.val = 3 then 43 else if k.val = 4 then 44 else 45
theorem do_any (k : Fin 6) (s : List UInt8) (w : World) (hs : s.length ≤ 1000000) (hb : bitL s = true) : Calls Tryd.prog (mFn k) #[.string (bt s)] w fun e w' => e = .returned (.string (bt (mD k s))) ∧ Below w.heap.size w w' :=
  all6 (P := fun k => Calls Tryd.prog (mFn k) #[.string (bt s)] w fun e w' => e = .returned (.string (bt (mD k s))) ∧ Below w.heap.size w w') (part0_any s w hs) (part1_any s w hs) (part2_any s w hs) (part3_any s w hs) (part4_any s w hs hb) (part5_any s w hs) k
theorem do_enters (k : Fin 6) : ∀ args w, (callFunc (mFn k) args).run Tryd.prog w = .ok (.enter (mFn k) args) w :=
  all6 (P := fun k => ∀ args w, (callFunc (mFn k) args).run Tryd.prog w = .ok (.enter (mFn k) args) w) (enters_of Tryd.func40 (by kernel_rfl) rfl) (enters_of Tryd.func41 (by kernel_rfl) rfl) (enters_of Tryd.func42 (by kernel_rfl) rfl) (enters_of Tryd.func43 (by kernel_rfl) rfl) (enters_of Tryd.func44 (by kernel_rfl) rfl) (enters_of Tryd.func45 (by kernel_rfl) rfl) k
/-- A part in memory: its word and its function. -/
def ptE (k : Fin 6) : List Value := [.string (bt (mW k)), .func (.func (mFn k)) #[] #[]]

def ptCells (p : Pg) : List Value := p.flatMap ptE
theorem ptCells_len (p : Pg) : (ptCells p).length = p.length * 2 := by
  induction p with
  | nil => rfl
  | cons k p ih => simp only [ptCells, List.flatMap_cons, List.length_append] at ih ⊢; rw [ih]; simp [ptE]; omega
theorem ptCells_snoc (p : Pg) (k : Fin 6) : ptCells (p ++ [k]) = ptCells p ++ ptE k := by simp [ptCells]
theorem ptCells_at : ∀ (p : Pg) (i : Nat) (k : Fin 6), p[i]? = some k → (ptCells p)[i * 2]? = some (.string (bt (mW k))) ∧ (ptCells p)[i * 2 + 1]? = some (.func (.func (mFn k)) #[] #[])
  | [], i, k, h => by simp at h
  | a :: p, 0, k, h => by obtain rfl : a = k := by simpa using h
                          exact ⟨rfl, rfl⟩
  | a :: p, i + 1, k, h => by
    have := ptCells_at p i k (by simpa using h)
    have e : ptCells (a :: p) = .string (bt (mW a)) :: .func (.func (mFn a)) #[] #[] :: ptCells p := rfl
    rw [e, show (i + 1) * 2 = i * 2 + 1 + 1 by omega]
    simpa using this
/-- The table of the parts, in memory. -/
def TabM (W : World) (b : Nat) : Prop := ∀ k : Fin 6, W.cell? ⟨b, k.val * 2, none⟩ = some (.string (bt (mW k))) ∧ W.cell? ⟨b, k.val * 2 + 1, none⟩ = some (.func (.func (mFn k)) #[] #[])
theorem TabM.later {W W' : World} {b : Nat} (h : TabM W b) (hb : Below W.heap.size W W') : TabM W' b := fun k => ⟨by rw [hb.cell (cell_lt (h k).1)]; exact (h k).1, by rw [hb.cell (cell_lt (h k).2)]; exact (h k).2⟩
theorem parts_any (w : World) : Calls Tryd.prog 24 #[] w fun e w' => e = .returned (.slice (some ⟨w.heap.size, 0, none⟩) 6 6) ∧ TabM w' w.heap.size ∧ Below w.heap.size w w' ∧ w'.heap.size = w.heap.size + 1 := by
  go_enter Tryd.func24, Tryd.ntmps24
  go_wp2_with fail
  go_ret
  refine ⟨rfl, ?_, (Below.refl _ _).alloc (Nat.le_refl _) _, by simp⟩
  refine all6 ?_ ?_ ?_ ?_ ?_ ?_
  all_goals (refine ⟨?_, ?_⟩ <;> (simp; try rfl))
set_option maxRecDepth 100000 in
theorem split1_any (k : Fin 6) (r : List UInt8) (Bp : Nat) (W : World) (h : W.cell? ⟨Bp, 0, none⟩ = some (.string (bt r))) : Calls Tryd.prog 26 #[.agg (ptE k).toArray, .pointer (some ⟨Bp, 0, none⟩)] W fun e w' => e = .returned (.bool ((mW k).isPrefixOf r)) ∧ Below W.heap.size W w' := by
  have hl := cell_lt h
  have HP : Hid (∀ W, Calls Tryd.prog 27 #[.string (bt r), .string (bt (mW k))] W fun e w' => e = .returned (.bool ((mW k).isPrefixOf r)) ∧ w' = W) := fun W => by
    have := Any.strings_HasPrefix Tryd.hasPrefixA (bt r) (bt (mW k)) W
    rw [bt_list, bt_list] at this
    exact this
  generalize (mW k).isPrefixOf r = Z at *
  unfold ptE
  generalize bt r = R at *
  generalize bt (mW k) = M at *
  generalize Value.func (.func (mFn k)) #[] #[] = fv at *
  have x0 : (W.alloc (.cells #[.string M, fv] 44)).cell? ⟨W.heap.size, 0, none⟩ = some (.string M) := by simp
  have x1 : (W.alloc (.cells #[.string M, fv] 44)).cell? ⟨Bp, 0, none⟩ = some (.string R) := by rw [World.cell?_alloc_lt _ _ _ hl]; exact h
  clear h
  go_enter Tryd.func26, Tryd.ntmps26
  go_wp2_with fail
  refine (HP.out _).mono ?_
  rintro e w' ⟨rfl, rfl⟩
  go_wp2_with fail
  go_ret
  exact ⟨rfl, (Below.refl _ _).alloc (Nat.le_refl _) _⟩
end Go.Proofs.YtdfcipdknfebpaaDoor
