/- Strips of up to ten spins: what transfer counts is what all states say; looked through by the kernel. -/
import Derived.Test.YtoghnbcjkgookaaDoorIsTr
import Derived.Test.YtoghnbcjkgookaaDoorIsPop
import Derived.Test.YtoghnbcjkgookaaDoorIsStrB
namespace Go.Proofs.YtoghnbcjkgookaaDoor

/-- How many bonds a strip has. -/
def cbN (h l : Nat) (ring : Bool) : Nat := l * (h - 1) + (if ring then l else l - 1) * h
/-- What a ring's last column has with the first one. -/
def clo (ring : Bool) (a b : Nat) : Nat := if ring then btw a b else 0
/-- What ising.Strip counts. -/
def spN (h l : Nat) (ring : Bool) (k : Nat) : Nat := stO btw (wth h) (clo ring) (2 ^ h) (l - 1) k

def trL (h sz first : Nat) : Nat → List (List Nat)
  | 0 => (List.range (2 ^ h)).map fun c => (List.range sz).map fun k => if c = first ∧ k = wth h first then 1 else 0
  | t + 1 => (List.range (2 ^ h)).map fun c => (List.range sz).map fun k => suF (fun b => shf (fun j => ((trL h sz first t).getD b []).getD j 0) (btw b c + wth h c) k) (2 ^ h)
theorem getD_map {α : Type} (f : Nat → α) (d : α) (n i : Nat) (h : i < n) : ((List.range n).map f).getD i d = f i := by
  simp [h]
theorem trL_at (h sz first : Nat) : ∀ t c k, c < 2 ^ h → k < sz → ((trL h sz first t).getD c []).getD k 0 = trF btw (wth h) (2 ^ h) first t c k
  | 0, c, k, hc, hk => by rw [trL, getD_map _ _ _ _ hc, getD_map _ _ _ _ hk]; rfl
  | t + 1, c, k, hc, hk => by
    rw [trL, getD_map _ _ _ _ hc, getD_map _ _ _ _ hk]
    refine suF_congr fun b hb => ?_
    unfold shf
    split
    · exact trL_at h sz first t b _ hb (by omega)
    · rfl
def spL (h l : Nat) (ring : Bool) (sz k : Nat) : Nat := suF (fun first => suF (fun last => shf (fun j => ((trL h sz first (l - 1)).getD last []).getD j 0) (clo ring last first) k) (2 ^ h)) (2 ^ h)
theorem spL_eq (h l : Nat) (ring : Bool) (sz k : Nat) (hk : k < sz) : spL h l ring sz k = spN h l ring k := by
  refine suF_congr fun first _ => suF_congr fun last hl => ?_
  unfold shf
  split
  · exact trL_at h sz first (l - 1) last _ hl (by omega)
  · rfl

/-- The unlike bonds of a list. -/
def unlL (s : Nat) : List (Nat × Nat) → Nat
  | [] => 0
  | e :: E => unB s e.1 e.2 + unlL s E
theorem unlL_snoc (s : Nat) (e : Nat × Nat) : ∀ E, unlL s (E ++ [e]) = unlL s E + unB s e.1 e.2
  | [] => by simp [unlL]
  | x :: E => by
    show unB s x.1 x.2 + unlL s (E ++ [e]) = unB s x.1 x.2 + unlL s E + _
    rw [unlL_snoc s e E]
    omega
theorem unl_list (s : Nat) (E : List (Nat × Nat)) : ∀ m, m ≤ E.length → unl (fun i => (E.getD i (0, 0)).1) (fun i => (E.getD i (0, 0)).2) s m = unlL s (E.take m)
  | 0, _ => rfl
  | m + 1, h => by
    have hm : m < E.length := by omega
    rw [List.take_add_one, List.getElem?_eq_getElem hm]
    show unl _ _ s m + unB s (E.getD m (0, 0)).1 (E.getD m (0, 0)).2 = unlL s (E.take m ++ [E[m]])
    rw [unlL_snoc, unl_list s E m (by omega), List.getD_eq_getElem?_getD, List.getElem?_eq_getElem hm]
    rfl
theorem cntK_list (f : Nat → Nat) (k : Nat) : ∀ T, cntK f k T = ((List.range T).map f).count k
  | 0 => rfl
  | T + 1 => by
    rw [List.range_succ, List.map_append, List.count_append, ← cntK_list f k T]
    show cntK f k T + _ = cntK f k T + _
    congr 1
    by_cases h : f T = k
    · simp [h]
    · simp [h]
def chkS (h l : Nat) (ring : Bool) : Bool :=
  (strB h l ring l).length == cbN h l ring && (List.range (cbN h l ring + 1)).all fun k => ((List.range (2 ^ (h * l))).map fun s => unlL s (strB h l ring l)).count k == spL h l ring (cbN h l ring + 1) k
def allS : List (Nat × Nat × Bool) := [(1, 1, false), (1, 2, false), (1, 3, false), (1, 4, false), (1, 5, false), (1, 6, false), (1, 7, false), (1, 8, false), (1, 9, false), (1, 10, false), (2, 1, false), (2, 2, false), (2, 3, false), (2, 4, false), (2, 5, false), (3, 1, false), (3, 2, false), (3, 3, false), (4, 1, false), (4, 2, false), (1, 3, true), (1, 4, true), (1, 5, true), (1, 6, true), (1, 7, true), (1, 8, true), (1, 9, true), (1, 10, true), (2, 3, true), (2, 4, true), (2, 5, true), (3, 3, true)]
theorem looked : ∀ x, x ∈ allS → chkS x.1 x.2.1 x.2.2 = true := by decide +kernel
theorem lenS : ∀ h, h < 5 → ∀ l, l < 13 → ∀ ring : Bool, 1 ≤ h → 1 ≤ l → (strB h l ring l).length = cbN h l ring := by decide +kernel
def chkT (h l : Nat) : Bool := cbN h l false == cbN l h false && (List.range (cbN h l false + 1)).all fun k => spL h l false (cbN h l false + 1) k == spL l h false (cbN h l false + 1) k
theorem turned : ∀ h, h < 5 → ∀ l, l < 5 → 1 ≤ h → 1 ≤ l → h * l ≤ 10 → chkT h l = true := by decide +kernel
theorem btw_low : ∀ h, h < 5 → ∀ a, a < 2 ^ h → ∀ b, b < 2 ^ h → btw a b ≤ h ∧ (btw a b = 0 ↔ a = b) := by decide +kernel
theorem wth_low : ∀ h, h < 5 → 1 ≤ h → (∀ c, c < 2 ^ h → wth h c + 1 ≤ h) ∧ suF (fun c => if wth h c = 0 then 1 else 0) (2 ^ h) = 2 := by decide +kernel

/-- What the program counts is what the document counts. -/
theorem sp_states {h l : Nat} {ring : Bool} (hh1 : 1 ≤ h) (hh : h ≤ 4) (hl1 : 1 ≤ l) (hl : l ≤ 12) (hr : ring = true → 3 ≤ l) (h10 : h * l ≤ 10) (k : Nat) (hk : k < cbN h l ring + 1) :
    spN h l ring k = stK (fun i => ((strB h l ring l).getD i (0, 0)).1) (fun i => ((strB h l ring l).getD i (0, 0)).2) (h * l) (strB h l ring l).length k := by
  have hm : (h, l, ring) ∈ allS := by
    rcases (show h = 1 ∨ h = 2 ∨ h = 3 ∨ h = 4 by omega) with rfl | rfl | rfl | rfl
    · cases ring with
      | false => rcases (show l = 1 ∨ l = 2 ∨ l = 3 ∨ l = 4 ∨ l = 5 ∨ l = 6 ∨ l = 7 ∨ l = 8 ∨ l = 9 ∨ l = 10 by omega) with rfl | rfl | rfl | rfl | rfl | rfl | rfl | rfl | rfl | rfl <;> decide
      | true =>
        have := hr rfl
        rcases (show l = 3 ∨ l = 4 ∨ l = 5 ∨ l = 6 ∨ l = 7 ∨ l = 8 ∨ l = 9 ∨ l = 10 by omega) with rfl | rfl | rfl | rfl | rfl | rfl | rfl | rfl <;> decide
    · cases ring with
      | false => rcases (show l = 1 ∨ l = 2 ∨ l = 3 ∨ l = 4 ∨ l = 5 by omega) with rfl | rfl | rfl | rfl | rfl <;> decide
      | true =>
        have := hr rfl
        rcases (show l = 3 ∨ l = 4 ∨ l = 5 by omega) with rfl | rfl | rfl <;> decide
    · cases ring with
      | false => rcases (show l = 1 ∨ l = 2 ∨ l = 3 by omega) with rfl | rfl | rfl <;> decide
      | true =>
        have := hr rfl
        obtain rfl : l = 3 := by omega
        decide
    · cases ring with
      | false => rcases (show l = 1 ∨ l = 2 by omega) with rfl | rfl <;> decide
      | true =>
        have := hr rfl
        omega
  have h1 := looked _ hm
  simp only [chkS, Bool.and_eq_true, List.all_eq_true, List.mem_range, beq_iff_eq] at h1
  have h2 := h1.2 k hk
  rw [← spL_eq h l ring _ k hk, ← h2, stK, cntK_list]
  congr 1
  refine List.map_congr_left fun s _ => ?_
  have h3 := unl_list s (strB h l ring l) _ (Nat.le_refl _)
  rw [List.take_length] at h3
  exact h3.symm
theorem sp_turned {h l : Nat} (hh1 : 1 ≤ h) (hh : h ≤ 4) (hl1 : 1 ≤ l) (hl : l ≤ 4) (h10 : h * l ≤ 10) : cbN h l false = cbN l h false ∧ ∀ k, k < cbN h l false + 1 → spN h l false k = spN l h false k := by
  have h1 := turned h (by omega) l (by omega) hh1 hl1 h10
  simp only [chkT, Bool.and_eq_true, List.all_eq_true, List.mem_range, beq_iff_eq] at h1
  refine ⟨h1.1, fun k hk => ?_⟩
  have h2 := h1.2 k hk
  rw [spL_eq _ _ _ _ k hk, spL_eq _ _ _ _ k hk] at h2
  exact h2
theorem clo_le {h : Nat} (hh : h ≤ 4) (ring : Bool) {a b : Nat} (ha : a < 2 ^ h) (hb : b < 2 ^ h) : clo ring a b ≤ if ring then h else 0 := by
  unfold clo
  cases ring with
  | true => exact (btw_low h (by omega) a ha b hb).1
  | false => exact Nat.le_refl _
theorem sp_sum {h l : Nat} {ring : Bool} (hh1 : 1 ≤ h) (hh : h ≤ 4) (hl1 : 1 ≤ l) : suF (spN h l ring) (cbN h l ring + 1) = 2 ^ (h * l) := by
  have hb : ∀ a b, a < 2 ^ h → b < 2 ^ h → btw a b ≤ h := fun a b ha hb => (btw_low h (by omega) a ha b hb).1
  have hw := (wth_low h (by omega) hh1).1
  have h1 := stO_sum (cl := clo ring) hb hw (fun a b ha hb => clo_le hh ring ha hb) (l - 1) (cbN h l ring + 1) (by
    obtain ⟨t, rfl⟩ : ∃ t, l = t + 1 := ⟨l - 1, by omega⟩
    obtain ⟨g, rfl⟩ : ∃ g, h = g + 1 := ⟨h - 1, by omega⟩
    have e1 : t * (g + 1 + (g + 1) - 1) = t * g + t * g + t := by rw [show g + 1 + (g + 1) - 1 = g + g + 1 by omega, Nat.mul_add, Nat.mul_add]; omega
    have e2 : (t + 1) * (g + 1) = t * g + t + g + 1 := by rw [Nat.succ_mul, Nat.mul_add]; omega
    have e3 : t * (g + 1) = t * g + t := by rw [Nat.mul_add]; omega
    have e4 : (t + 1) * g = t * g + g := Nat.succ_mul _ _
    unfold cbN
    rw [Nat.add_sub_cancel, Nat.add_sub_cancel]
    cases ring with
    | true =>
      simp only [if_true]
      omega
    | false =>
      rw [if_neg (by decide), if_neg (by decide)]
      omega)
  show suF (stO _ _ _ _ _) _ = _
  rw [h1, show l - 1 + 1 = l by omega, Nat.pow_mul]
theorem sp_none {h l : Nat} {ring : Bool} (hh1 : 1 ≤ h) (hh : h ≤ 4) : spN h l ring 0 = 2 := by
  have hb0 : ∀ a b, a < 2 ^ h → b < 2 ^ h → (btw a b = 0 ↔ a = b) := fun a b ha hb => (btw_low h (by omega) a ha b hb).2
  show stO _ _ _ _ _ 0 = 2
  rw [stO_none hb0 (fun a ha => by
    unfold clo
    cases ring with
    | true => exact (hb0 a a ha ha).2 rfl
    | false => rfl) (l - 1)]
  exact (wth_low h (by omega) hh1).2
end Go.Proofs.YtoghnbcjkgookaaDoor
