/- demonlaw1.Names walked. -/
import Derived.Test.YtiecbconcdncmaaDoorCode
import Derived.Deep.QuietTactic
import Derived.BigQuiet
import Derived.Deep.RegionHeld3
namespace Go.Proofs.YtiecbconcdncmaaDoor
open Go.RowKit Go.Extern.Stop Go.Stop Go.Extern

set_option maxHeartbeats 400000 in
/-- SameInts at two slices of the same numbers. -/
theorem same_ints (b1 o1 c1 b2 o2 c2 n : Nat) (f : Nat → Int) (w : World) (hn : n ≤ 1000000)
    (h1 : ∀ i, i < n → w.cell? ⟨b1, o1 + i, none⟩ = some (.int .i64 (f i))) (h2 : ∀ i, i < n → w.cell? ⟨b2, o2 + i, none⟩ = some (.int .i64 (f i))) :
    Calls Tryd.prog 8 #[.slice (some ⟨b1, o1, none⟩) n c1, .slice (some ⟨b2, o2, none⟩) n c2] w fun e w' => e = .returned (.bool true) ∧ ∃ m, w' = w.drewN m := by
  have H1 : Hid (∀ i, i < n → w.cell? ⟨b1, o1 + i, none⟩ = some (.int .i64 (f i))) := h1
  have H2 : Hid (∀ i, i < n → w.cell? ⟨b2, o2 + i, none⟩ = some (.int .i64 (f i))) := h2
  clear h1 h2
  go_enter Tryd.func8, Tryd.ntmps8
  go_wp2_with fail
  go_loopw [5] (fun t wr => ∃ j m : Nat, j ≤ n ∧ t = .int .i64 j ∧ wr = w.drewN m) (fun t _ => n - (intOf t).toNat)
  case atStart => exact ⟨0, 0, Nat.zero_le _, rfl, rfl⟩
  case round =>
    obtain ⟨j, m, hj, rfl, rfl⟩ := hrel
    by_cases hlt : j < n
    · have g1 := H1.out j hlt
      have g2 := H2.out j hlt
      go_wp2_with fail
      go_quiet (fail)
      go_wp2_with fail
      refine ⟨⟨j + 1, m + nq, by omega, by go_num, ?_⟩, by simp [intOf]; omega⟩
      simp
    · go_wp2_with fail
      go_ret
      exact ⟨rfl, m, rfl⟩

/-- The eight words, and the eight texts. -/
def word (j : Nat) : ByteArray := [(⟨#[116, 101, 120, 116]⟩ : ByteArray), ⟨#[98, 111, 117, 110, 100]⟩, ⟨#[115, 104, 97, 112, 101]⟩, ⟨#[122, 101, 114, 111]⟩, ⟨#[110, 97, 109, 101]⟩, ⟨#[110, 111, 110, 101]⟩, ⟨#[111, 114, 100, 101, 114]⟩, ⟨#[107, 105, 110, 100]⟩].getD j ⟨#[]⟩
def full (j : Nat) : ByteArray := ⟨#[100, 101, 109, 111, 110, 58, 32]⟩ ++ word j
theorem word_size (j : Nat) (hj : j < 8) : (word j).size ≤ 5 := by
  have : j = 0 ∨ j = 1 ∨ j = 2 ∨ j = 3 ∨ j = 4 ∨ j = 5 ∨ j = 6 ∨ j = 7 := by omega
  rcases this with rfl | rfl | rfl | rfl | rfl | rfl | rfl | rfl <;> decide
theorem full_add {P : Program} (j : Nat) (hj : j < 8) (w : World) : (Op.stringOp .add ⟨#[100, 101, 109, 111, 110, 58, 32]⟩ (word j)).run P w = .ok (.string (full j)) w := by
  refine run_string_add_sum w _ _ ?_
  have := word_size j hj
  rw [ByteArray.size_mk']
  simp
  omega

/-- The law's world, while it goes round. -/
structure InNames (w wr : World) (a : Nat → Addr) (be bt : Nat) : Prop where
  errs : Errs wr a
  text : ∀ j, j < 8 → wr.cell? (a j) = some (.string (full j))
  below : Below w.heap.size w wr
  e : ∀ j, j < 8 → wr.cell? ⟨be, j, none⟩ = some (.iface 58 (.pointer (some (a j))))
  t : ∀ j, j < 8 → wr.cell? ⟨bt, j, none⟩ = some (.string (word j))
  old : w.heap.size ≤ wr.heap.size

theorem InNames.next {w wr wn : World} {a : Nat → Addr} {be bt : Nat} (h : InNames w wr a be bt) (hb : Below wr.heap.size wr wn) : InNames w wn a be bt := by
  refine ⟨h.errs.below hb, fun j hj => ?_, h.below.trans (hb.mono h.old), fun j hj => ?_, fun j hj => ?_, Nat.le_trans h.old hb.size⟩
  · rw [hb.cell (cell_lt (h.text j hj))]; exact h.text j hj
  · rw [hb.cell (cell_lt (h.e j hj))]; exact h.e j hj
  · rw [hb.cell (cell_lt (h.t j hj))]; exact h.t j hj

theorem Tryd.methodError (v : Value) (w : World) : (Go.method 304 58 v "Error").run Tryd.prog w = .ok (131, v) w := by kernel_rfl

/-- The numbers of package api. -/
def ints25 : List Int := [1000000, 1000000, 1099511627776, 40000, 4611686018427387904, 1073741824, 16, 4096, 8, 200, 64, 200, 4000, 24, 4, 20, 16, 14, 30, 997, 40, 24, 400, 12, 16]
def nums25 : Array Value := (ints25.map (Value.int .i64)).toArray
theorem nums25_at (i : Nat) (hi : i < 25) : nums25[i]? = some (.int .i64 (ints25.getD i 0)) := by
  have hl : ints25.length = 25 := rfl
  simp [nums25, List.getElem?_eq_getElem (l := ints25) (by omega : i < ints25.length)]

theorem names_same (w : World) : Calls Tryd.prog 8 #[.slice (some ⟨w.heap.size, 0, none⟩) 25 25, .slice (some ⟨w.heap.size + 1, 0, none⟩) 25 25] ((w.alloc (.cells nums25 3)).alloc (.cells nums25 3)) fun e w' => e = .returned (.bool true) ∧ ∃ m, w' = ((w.alloc (.cells nums25 3)).alloc (.cells nums25 3)).drewN m := by
  refine same_ints _ 0 25 _ 0 25 25 (fun i => ints25.getD i 0) _ (by decide) (fun i hi => ?_) (fun i hi => ?_)
  · rw [World.cell?_alloc_lt _ _ ⟨w.heap.size, 0 + i, none⟩ (by simp), World.cell?_alloc_at _ _ _ _ rfl, Nat.zero_add]
    exact nums25_at i hi
  · rw [World.cell?_alloc_at _ _ _ _ (by simp), Nat.zero_add]
    exact nums25_at i hi

/-- The eight words in their slice. -/
def words8 : Array Value := #[.string ⟨#[116, 101, 120, 116]⟩, .string ⟨#[98, 111, 117, 110, 100]⟩, .string ⟨#[115, 104, 97, 112, 101]⟩, .string ⟨#[122, 101, 114, 111]⟩, .string ⟨#[110, 97, 109, 101]⟩, .string ⟨#[110, 111, 110, 101]⟩, .string ⟨#[111, 114, 100, 101, 114]⟩, .string ⟨#[107, 105, 110, 100]⟩]
theorem words8_at (j : Nat) (hj : j < 8) : words8[j]? = some (.string (word j)) := by
  have : j = 0 ∨ j = 1 ∨ j = 2 ∨ j = 3 ∨ j = 4 ∨ j = 5 ∨ j = 6 ∨ j = 7 := by omega
  rcases this with rfl | rfl | rfl | rfl | rfl | rfl | rfl | rfl <;> rfl

/-- The law's world ahead of its loop. -/
theorem names_start (w W : World) (a : Nat → Addr) (h : Errs w a) (ht : ∀ j, j < 8 → w.cell? (a j) = some (.string (full j))) (hb : Below w.heap.size w W) :
    InNames w ((W.alloc (.cells (eight a) 25)).alloc (.cells words8 9)) a W.heap.size (W.heap.size + 1) := by
  have hb2 : Below w.heap.size w ((W.alloc (.cells (eight a) 25)).alloc (.cells words8 9)) := (hb.alloc hb.size _).alloc (by have := hb.size; simp; omega) _
  refine ⟨h.below hb2, fun j hj => ?_, hb2, fun j hj => ?_, fun j hj => ?_, hb2.size⟩
  · rw [hb2.cell (cell_lt (ht j hj))]; exact ht j hj
  · rw [World.cell?_alloc_lt _ _ ⟨W.heap.size, j, none⟩ (by simp)]; exact eight_cell a W j hj
  · rw [World.cell?_alloc_at _ _ _ _ (by simp)]; exact words8_at j hj

theorem error_text (p : Addr) (t : ByteArray) (w : World) (h : w.cell? p = some (.string t)) : Calls Tryd.prog 131 #[.pointer (some p)] w fun e w' => e = .returned (.string t) ∧ w' = w := by
  go_enter Tryd.func131, Tryd.ntmps131
  go_wp2
  go_ret
  exact ⟨rfl, rfl⟩

theorem coded_yes (a : Nat → Addr) (k : Nat) (hk : k < 8) (c : Int) (w : World) (hc : c = (k : Int) + 1) (h : Errs w a) :
    Calls Tryd.prog 10 #[.iface 58 (.pointer (some (a k))), .int .i64 c] w fun e w' => e = .returned (.bool true) ∧ Below w.heap.size w w' := by
  have := coded_err a k hk c w h
  rw [decide_eq_true hc] at this
  exact this
theorem wrap_succ (j : Nat) (hj : j < 8) : IntKind.i64.wrap ((j : Int) + 1) = (j : Int) + 1 := by
  have : j = 0 ∨ j = 1 ∨ j = 2 ∨ j = 3 ∨ j = 4 ∨ j = 5 ∨ j = 6 ∨ j = 7 := by omega
  rcases this with rfl | rfl | rfl | rfl | rfl | rfl | rfl | rfl <;> decide

theorem new_error (t : ByteArray) (w : World) : Calls Tryd.prog 11 #[.string t] w fun e w' => e = .returned (.iface 58 (.pointer (some ⟨w.heap.size, 0, none⟩))) ∧ w' = w.alloc (.cells #[.string t] 60) := by
  go_enter Tryd.func11, Tryd.ntmps11
  go_wp2
  go_ret
  exact ⟨rfl, rfl⟩

theorem heap_new (w : World) (o : Obj) : (w.alloc o).heap[w.heap.size]? = some o := by
  show (w.heap.push o)[w.heap.size]? = some o
  simp

/-- plain.Code of an error that errors.New has just made. -/
theorem code_new (a : Nat → Addr) (t : ByteArray) (w : World) (h : Errs w a) :
    Calls Tryd.prog 9 #[.iface 58 (.pointer (some ⟨w.heap.size, 0, none⟩))] (w.alloc (.cells #[.string t] 60)) fun e w' => e = .returned (.tuple #[.int .i64 (-1), .int .i64 (-1)]) ∧ Below w.heap.size w w' := by
  have hb : Below w.heap.size w (w.alloc (.cells #[.string t] 60)) := (Below.refl _ _).alloc (Nat.le_refl _) _
  have hc := code_err a ⟨w.heap.size, 0, none⟩ 8 (by decide) _ (h.below hb) ⟨#[.string t], 60, heap_new w _⟩
    (fun j hj e => by obtain ⟨c, u, hr⟩ := h.row j hj; have := heap_lt hr; rw [← e] at this; simp at this) (fun h8 => absurd h8 (by decide))
  rw [codeOf_ge (by decide)] at hc
  exact hc.mono fun e w' ⟨he, hw⟩ => ⟨he, hb.trans (hw.mono (by simp))⟩

set_option maxRecDepth 4000 in
set_option maxHeartbeats 1000000 in
theorem names_walk (w : World) (a : Nat → Addr) (h : Errs w a) (ht : ∀ j, j < 8 → w.cell? (a j) = some (.string (full j))) :
    Calls Tryd.prog 3 #[] w fun e w' => e = .returned (.bool true) ∧ Below w.heap.size w w' := by
  have HT : Hid (∀ j, j < 8 → w.cell? (a j) = some (.string (full j))) := ht
  clear ht
  have hs := names_same w
  have hb0 : Below w.heap.size w ((w.alloc (.cells nums25 3)).alloc (.cells nums25 3)) := ((Below.refl _ _).alloc (Nat.le_refl _) _).alloc (by simp) _
  simp only [nums25, ints25, List.map_cons, List.map_nil] at hs hb0
  go_enter Tryd.func3, Tryd.ntmps3
  go_wp2_with fail
  refine hs.mono ?_
  clear hs
  rintro e w1 ⟨rfl, m, hw1⟩
  have hb1 : Below w.heap.size w w1 := by rw [hw1]; exact below_drewN hb0 m
  clear hw1 hb0
  have h1 := h.below hb1
  have hin := names_start w w1 a h HT.out hb1
  have HI : Hid (InNames w ((w1.alloc (.cells (eight a) 25)).alloc (.cells words8 9)) a w1.heap.size (w1.heap.size + 1)) := hin
  simp only [eight, words8] at HI
  clear hin HT
  have d0 := h1.c0
  have d1 := h1.c1
  have d2 := h1.c2
  have d3 := h1.c3
  have d4 := h1.c4
  have d5 := h1.c5
  have d6 := h1.c6
  have d7 := h1.c7
  go_wp2_with fail
  clear d0 d1 d2 d3 d4 d5 d6 d7 h h1 hb1
  go_loopw [5] (fun t wr => ∃ j : Nat, j ≤ 8 ∧ t = .int .i64 j ∧ InNames w wr a w1.heap.size (w1.heap.size + 1)) (fun t _ => 8 - (intOf t).toNat)
  case atStart => exact ⟨0, Nat.zero_le _, rfl, HI.out⟩
  case round =>
    clear HI
    obtain ⟨j, hj, rfl, hin⟩ := hrel
    have HI : Hid (InNames w wr a w1.heap.size (w1.heap.size + 1)) := hin
    clear hin
    by_cases hlt : j < 8
    · have hej := HI.out.e j hlt
      have hcf := code_fault a wr.heap.size 7 j hlt (wr.alloc (.cells #[.int .i64 7, .iface 58 (.pointer (some (a j)))] 32)) (HI.out.errs.below ((Below.refl _ _).alloc (Nat.le_refl _) _)) (by simp) (by simp) (by simp)
      go_wp2_with fail
      refine hcf.mono ?_
      clear hcf hej
      rintro e w2 ⟨rfl, hb2⟩
      have HI2 : Hid (InNames w w2 a w1.heap.size (w1.heap.size + 1)) := HI.out.next (((Below.refl _ _).alloc (Nat.le_refl _) _).trans (hb2.mono (by simp)))
      have HI3 : Hid (InNames w w2.drew a w1.heap.size (w1.heap.size + 1)) := HI2.out.next (Below.refl _ _).drew
      have ce := HI2.out.e j hlt
      have ct := HI2.out.t j hlt
      clear HI hb2
      have cx := HI2.out.text j hlt
      have hadd := full_add (P := Tryd.prog) j hlt
      have hwr := wrap_succ j hlt
      have mE := Tryd.methodError
      have hj0 : (0 : Int) ≤ (j : Int) := by omega
      have hj8 : (j : Int) < 8 := by omega
      go_wp2_with fail
      go_region_held3 (fun w' => w'.cell? ⟨w1.heap.size, j, none⟩ = some (.iface 58 (.pointer (some (a j)))) ∧ w'.cell? ⟨w1.heap.size + 1, j, none⟩ = some (.string (word j)) ∧ w'.cell? (a j) = some (.string (full j)) ∧ Hid (InNames w w' a w1.heap.size (w1.heap.size + 1)))
        (first | exact ⟨HI3.out.e j hlt, HI3.out.t j hlt, HI3.out.text j hlt, HI3⟩ | exact ⟨(HI3.out.next hb3).e j hlt, (HI3.out.next hb3).t j hlt, (HI3.out.next hb3).text j hlt, HI3.out.next hb3⟩)
        (first | (go_at_call 131; refine (error_text (a j) (full j) _ ?_).mono ?_; exact HI3.out.text j hlt; rintro e w' ⟨rfl, rfl⟩) | (go_at_call 10; refine (coded_yes a j hlt _ _ ?_ ?_).mono ?_; (first | rfl | exact wrap_succ j hlt | omega); exact HI3.out.errs; rintro e w' ⟨rfl, hb3⟩))
      clear hwr hadd mE ce ct cx HI2 hj0 hj8
      go_wp2_with fail
      exact ⟨⟨j + 1, by omega, by go_num, HI3.out.next (by assumption)⟩, by simp [intOf]; omega⟩
    · have hnew := new_error ⟨#[97, 110, 111, 116, 104, 101, 114, 32, 111, 110, 101]⟩ wr
      have hcode := code_new a ⟨#[97, 110, 111, 116, 104, 101, 114, 32, 111, 110, 101]⟩ wr HI.out.errs
      go_wp2_with fail
      refine hnew.mono ?_
      clear hnew
      rintro e w2 ⟨rfl, rfl⟩
      go_wp2_with fail
      refine hcode.mono ?_
      clear hcode
      rintro e w2 ⟨rfl, hb2⟩
      have hn0 : ∀ w, Calls Tryd.prog 10 #[.nilIface, .int .i64 0] w fun e w' => e = .returned (.bool true) ∧ w' = w := fun w => by simpa using coded_nil 0 w
      go_wp2_with fail
      refine (hn0 _).mono ?_
      rintro e w3 ⟨rfl, rfl⟩
      clear hn0
      go_wp2_with fail
      go_ret
      exact ⟨rfl, (HI.out.next hb2).below⟩
end Go.Proofs.YtiecbconcdncmaaDoor
