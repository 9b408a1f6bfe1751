/- prefix.Search: its table, and what lies below a root. -/
import Derived.Test.YtcigmihfannmjabDoorSearchE
import Derived.Test.YtcigmihfannmjabDoorFills
import Derived.BigQuiet
namespace Go.Proofs.YtcigmihfannmjabDoor
open Go.RowKit

/-- The table of costs in memory. -/
structure Costs (w : World) (B : Nat) (f : Nat → Nat → Int) : Prop where
  cells : ∀ a b, a ≤ 16 → b ≤ 16 → w.cell? ⟨B, a * 17 + b, none⟩ = some (.int .i64 (f a b))
  fz : ∀ a b, a ≤ 16 → b ≤ 16 → w.frozen? ⟨B, a * 17 + b, none⟩ = false
set_option maxRecDepth 100000 in
theorem Total_row (b o cap n : Nat) (z : Nat → Int) (w : World) (h : RowAt w b o n z) (hz : ∀ k, k ≤ n → 0 ≤ sumN z k ∧ sumN z k ≤ 1000000) (hzi : ∀ i, i < n → 0 ≤ z i ∧ z i ≤ 1000000) (hn : n ≤ 1000000) :
    Calls Tryd.prog 33 #[.slice (some ⟨b, o, none⟩) n cap] w fun e w' => e = .returned (.int .i64 (sumN z n)) ∧ w' = w := by
  have HR := Hid.mk' h
  have HZ := Hid.mk' hz
  have HZI := Hid.mk' hzi
  clear h hz hzi
  go_enter Tryd.func33, Tryd.ntmps33
  go_wp2_with fail
  go_loopw [3, 8] (fun s i wr => ∃ k : Nat, k ≤ n ∧ s = .int .i64 (sumN z k) ∧ i = .int .i64 k ∧ wr = w) (fun _ i _ => n - (intOf i).toNat)
  case atStart => exact ⟨0, Nat.zero_le _, rfl, rfl, rfl⟩
  case round =>
    obtain ⟨k, hk, rfl, rfl, rfl⟩ := hrel
    rcases Nat.lt_or_ge k n with h1 | h1
    · have hc := HR.out k h1
      have hs1 := HZ.out k hk
      have hs2 := HZ.out (k + 1) h1
      have hs3 := HZI.out k h1
      have HE : Hid (sumN z (k + 1) = sumN z k + z k) := rfl
      have hkn : (k : Int) < (n : Int) := by omega
      obtain ⟨x, hx⟩ : ∃ x, x = z k := ⟨_, rfl⟩
      rw [← hx] at hc hs3 HE
      obtain ⟨s, hs⟩ : ∃ s, s = sumN z k := ⟨_, rfl⟩
      rw [← hs] at hs1 HE ⊢
      clear hx hs
      go_wp2_with fail
      exact ⟨⟨k + 1, h1, by rw [HE.out], by go_num, trivial⟩, by simp [intOf]; omega⟩
    · obtain rfl : k = n := by omega
      go_wp2_with fail
      go_ret
      exact ⟨rfl, rfl⟩
theorem sumN_kSum (f : Nat → Int) (i : Nat) : ∀ m, sumN (fun k => f (i + k)) m = kSum f i m
  | 0 => rfl
  | m + 1 => by rw [sumN, kSum, sumN_kSum f i m]
set_option maxRecDepth 100000 in
theorem below_any (B F T fr r t : Nat) (f : Nat → Nat → Int) (w : World) (h : Costs w B f) (hF : w.cell? ⟨F, 0, none⟩ = some (.int .i64 fr)) (hT : w.cell? ⟨T, 0, none⟩ = some (.int .i64 t)) (hfr : fr ≤ 16) (hr : r ≤ 15) (ht : t ≤ 16) (hb : ∀ a b, a ≤ 16 → b ≤ 16 → 0 ≤ f a b ∧ f a b ≤ 10000000) :
    Calls Tryd.prog 37 #[.int .i64 r, .pointer (some ⟨B, 0, none⟩), .pointer (some ⟨F, 0, none⟩), .pointer (some ⟨T, 0, none⟩)] w fun e w' => e = .returned (.int .i64 (f fr r + f (r + 1) t)) ∧ Below w.heap.size w w' := by
  have y0 := h.cells fr r hfr (by omega)
  have y1 := h.cells (r + 1) t (by omega) ht
  have b0 := hb fr r hfr (by omega)
  have b1 := hb (r + 1) t (by omega) ht
  have i1 : (fr : Int) < 17 := by omega
  have i2 : (r : Int) < 16 := by omega
  have i3 : (t : Int) < 17 := by omega
  have j1 : (0 : Int) ≤ (fr : Int) := by omega
  have j2 : (0 : Int) ≤ (r : Int) := by omega
  have j3 : (0 : Int) ≤ (t : Int) := by omega
  clear h hb
  generalize f fr r = p at *
  generalize f (r + 1) t = q at *
  go_enter Tryd.func37, Tryd.ntmps37
  go_wp2_with (first | go_quiet (fail))
  go_ret
  exact ⟨rfl, below_drewN (Below.refl _ _) _⟩
theorem zeros289 : Tryd.zeroCells65 = (List.replicate 289 (Value.int .i64 0)).toArray := by kernel_rfl
theorem Costs.zero (w : World) : Costs (w.alloc (.cells Tryd.zeroCells65 65)) w.heap.size (fun _ _ => 0) := by
  refine ⟨fun a b ha hb => ?_, fun a b _ _ => World.frozen?_alloc_new w _ _ _⟩
  rw [World.cell?_alloc_at _ _ _ _ rfl, zeros289, List.getElem?_toArray, List.getElem?_replicate, if_pos (by omega)]
theorem Costs.later {w w' : World} {B : Nat} {f : Nat → Nat → Int} (h : Costs w B f) (hb : Below w.heap.size w w') : Costs w' B f := by
  refine ⟨fun a b ha hb' => ?_, fun a b ha hb' => ?_⟩
  · have := h.cells a b ha hb'
    rw [hb.cell (cell_lt this)]; exact this
  · have := h.cells a b ha hb'
    rw [hb.frozen (cell_lt this)]; exact h.fz a b ha hb'
theorem Costs.beside {w : World} {B : Nat} {f : Nat → Nat → Int} (h : Costs w B f) (p : Addr) (v : Value) (hp : p.block ≠ B) : Costs (w.setCell p v) B f := by
  refine ⟨fun a b ha hb' => ?_, fun a b ha hb' => by rw [World.frozen?_setCell]; exact h.fz a b ha hb'⟩
  rw [World.cell?_setCell_other _ _ _ _ (fun e => hp (by have := congrArg Addr.block e; simpa using this))]
  exact h.cells a b ha hb'
theorem Costs.put {w : World} {B : Nat} {f g : Nat → Nat → Int} (h : Costs w B f) (a b : Nat) (x : Int) (ha : a ≤ 16) (hb : b ≤ 16) (hg : ∀ a' b', a' ≤ 16 → b' ≤ 16 → g a' b' = if a' = a ∧ b' = b then x else f a' b') : Costs (w.setCell ⟨B, a * 17 + b, none⟩ (.int .i64 x)) B g := by
  refine ⟨fun a' b' ha' hb' => ?_, fun a' b' ha' hb' => by rw [World.frozen?_setCell]; exact h.fz a' b' ha' hb'⟩
  rw [hg a' b' ha' hb']
  by_cases e : a' = a ∧ b' = b
  · rw [if_pos e, e.1, e.2, World.cell?_setCell_same _ _ _ (h.cells a b ha hb)]
  · rw [if_neg e, World.cell?_setCell_other _ _ _ _ (fun e2 => e (by have := congrArg Addr.off e2; simp at this; omega))]
    exact h.cells a' b' ha' hb'
/-- What the table holds while sizes up to s are done, and of size s those from ahead of g on. -/
def tabC (ks gs : Nat → Int) (n s g : Nat) (a b : Nat) : Int := if a ≤ b ∧ b ≤ n ∧ (b - a < s ∨ (b - a = s ∧ a < g)) then cst ks gs a (b - a) else 0
theorem tabC_start (ks gs : Nat → Int) (n : Nat) (a b : Nat) : tabC ks gs n 1 0 a b = 0 := by
  unfold tabC
  split
  · rename_i h
    obtain ⟨h1, h2, h3⟩ := h
    have : b - a = 0 := by omega
    rw [this, cst_zero]
  · rfl
theorem tabC_next (ks gs : Nat → Int) (n s g : Nat) (hg : g + s = n + 1) (a b : Nat) : tabC ks gs n (s + 1) 0 a b = tabC ks gs n s g a b := by
  unfold tabC
  by_cases h : a ≤ b ∧ b ≤ n ∧ (b - a < s ∨ (b - a = s ∧ a < g))
  · rw [if_pos h, if_pos ⟨h.1, h.2.1, by omega⟩]
  · rw [if_neg h, if_neg (fun h2 => h ⟨h2.1, h2.2.1, by omega⟩)]
theorem tabC_put (ks gs : Nat → Int) (n s g : Nat) (hg : g + s ≤ n) (a b : Nat) : tabC ks gs n s (g + 1) a b = if a = g ∧ b = g + s then cst ks gs g s else tabC ks gs n s g a b := by
  unfold tabC
  by_cases e : a = g ∧ b = g + s
  · rw [if_pos e, if_pos (by omega), e.1, e.2, show g + s - g = s by omega]
  · rw [if_neg e]
    by_cases h : a ≤ b ∧ b ≤ n ∧ (b - a < s ∨ (b - a = s ∧ a < g))
    · rw [if_pos h, if_pos ⟨h.1, h.2.1, by omega⟩]
    · rw [if_neg h, if_neg (fun h2 => h ⟨h2.1, h2.2.1, by omega⟩)]
theorem tabC_sides (ks gs : Nat → Int) (n s g c : Nat) (hg : g + (s + 1) ≤ n) (hc : c ≤ s) : tabC ks gs n (s + 1) g g (g + c) + tabC ks gs n (s + 1) g (g + c + 1) (g + (s + 1)) = sides2 ks gs g s c := by
  unfold tabC sides2
  rw [if_pos ⟨by omega, by omega, by omega⟩, if_pos ⟨by omega, by omega, by omega⟩, show g + c - g = c by omega, show g + (s + 1) - (g + c + 1) = s - c by omega]
theorem tabC_last (ks gs : Nat → Int) (n : Nat) : tabC ks gs n (n + 1) 0 0 n = cst ks gs 0 n := by
  unfold tabC
  rw [if_pos ⟨by omega, by omega, by omega⟩, Nat.sub_zero]
theorem tabC_bound {ks gs : Nat → Int} (hk : ∀ i, 0 ≤ ks i ∧ ks i ≤ 4096) (hg : ∀ i, 0 ≤ gs i ∧ gs i ≤ 4096) (n s g a b : Nat) (hb : b ≤ 16) : 0 ≤ tabC ks gs n s g a b ∧ tabC ks gs n s g a b ≤ 10000000 := by
  unfold tabC
  split
  · have := cst_bound hk hg (b - a) a (b - a) (Nat.le_refl _) (by omega)
    omega
  · omega
end Go.Proofs.YtcigmihfannmjabDoor
