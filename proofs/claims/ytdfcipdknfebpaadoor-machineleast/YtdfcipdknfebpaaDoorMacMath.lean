/- A small machine: programs as rows of parts, what they write. Plain functions. -/
import Derived.Test.YtdfcipdknfebpaaDoorProg
namespace Go.Proofs.YtdfcipdknfebpaaDoor


abbrev Pg := List (Fin 6)
/-- The word of a part, and what a part makes of what was written. -/
def mW (k : Fin 6) : List UInt8 := if k.val = 0 then [48, 48] else if k.val = 1 then [48, 49] else if k.val = 2 then [49, 48, 48] else if k.val = 3 then [49, 48, 49] else if k.val = 4 then [49, 49, 48] else [49, 49, 49]
def mD (k : Fin 6) (s : List UInt8) : List UInt8 := if k.val = 0 then s ++ [48] else if k.val = 1 then s ++ [49] else if k.val = 2 then s ++ s else if k.val = 3 then s.reverse else if k.val = 4 then s.map (fun c => 97 - c) else s.dropLast
def fla (p : Pg) : List UInt8 := p.flatMap mW
def stp (p : Pg) : List UInt8 := p.foldl (fun s k => mD k s) []
theorem mD0 (s : List UInt8) : mD 0 s = s ++ [48] := rfl
theorem mD1 (s : List UInt8) : mD 1 s = s ++ [49] := rfl
theorem mD2 (s : List UInt8) : mD 2 s = s ++ s := rfl
theorem mD3 (s : List UInt8) : mD 3 s = s.reverse := rfl
theorem mD4 (s : List UInt8) : mD 4 s = s.map (fun c => 97 - c) := rfl
theorem mD5 (s : List UInt8) : mD 5 s = s.dropLast := rfl
theorem fla_nil : fla [] = [] := rfl
theorem fla_cons (k : Fin 6) (p : Pg) : fla (k :: p) = mW k ++ fla p := by simp [fla]
theorem fla_app (p q : Pg) : fla (p ++ q) = fla p ++ fla q := by simp [fla]
theorem fla_snoc (p : Pg) (k : Fin 6) : fla (p ++ [k]) = fla p ++ mW k := by simp [fla]
theorem stp_snoc (p : Pg) (k : Fin 6) : stp (p ++ [k]) = mD k (stp p) := by simp [stp]
theorem all6 {P : Fin 6 → Prop} (h0 : P 0) (h1 : P 1) (h2 : P 2) (h3 : P 3) (h4 : P 4) (h5 : P 5) (k : Fin 6) : P k := by
  match k with
  | ⟨0, _⟩ => exact h0
  | ⟨1, _⟩ => exact h1
  | ⟨2, _⟩ => exact h2
  | ⟨3, _⟩ => exact h3
  | ⟨4, _⟩ => exact h4
  | ⟨5, _⟩ => exact h5
theorem mW_len : ∀ k : Fin 6, (mW k).length = if k.val < 2 then 2 else 3 := by decide
theorem mW_pos (k : Fin 6) : 2 ≤ (mW k).length ∧ (mW k).length ≤ 3 := by rw [mW_len]; split <;> omega
theorem fla_len (p : Pg) : 2 * p.length ≤ (fla p).length := by
  induction p with
  | nil => simp [fla]
  | cons k p ih => rw [fla_cons, List.length_append, List.length_cons]; have := mW_pos k; omega
/-- No word begins another one. -/
theorem mW_free : ∀ j k : Fin 6, (mW j).isPrefixOf (mW k) = decide (j = k) := by decide
theorem app_pre {a b c d : List UInt8} (h : a ++ c = b ++ d) : a.isPrefixOf b = true ∨ b.isPrefixOf a = true := by
  rw [List.isPrefixOf_iff_prefix, List.isPrefixOf_iff_prefix]
  have h1 : a <+: a ++ c := List.prefix_append ..
  have h2 : b <+: a ++ c := h ▸ List.prefix_append ..
  exact List.prefix_or_prefix_of_prefix h1 h2
theorem mW_first {j k : Fin 6} {c d : List UInt8} (h : mW j ++ c = mW k ++ d) : j = k ∧ c = d := by
  have : j = k := by
    rcases app_pre h with h1 | h1
    · rw [mW_free] at h1; exact of_decide_eq_true h1
    · rw [mW_free] at h1; exact (of_decide_eq_true h1).symm
  subst this
  exact ⟨rfl, List.append_cancel_left h⟩
theorem fla_pre : ∀ (p q : Pg) (r : List UInt8), fla q = fla p ++ r → ∃ q', q = p ++ q' ∧ r = fla q'
  | [], q, r, h => ⟨q, rfl, by rw [h]; rfl⟩
  | k :: p, [], r, h => by
    rw [fla_cons, fla_nil] at h
    have h1 := congrArg List.length h
    simp only [List.length_nil, List.length_append] at h1
    have := mW_pos k; omega
  | k :: p, j :: q, r, h => by
    rw [fla_cons, fla_cons, List.append_assoc] at h
    obtain ⟨rfl, h2⟩ := mW_first h
    obtain ⟨q', rfl, h3⟩ := fla_pre p q r h2
    exact ⟨q', rfl, h3⟩
theorem fla_inj {p q : Pg} (h : fla p = fla q) : p = q := by
  obtain ⟨q', rfl, h2⟩ := fla_pre p q [] (by rw [h, List.append_nil])
  cases q' with
  | nil => simp
  | cons k t => rw [fla_cons] at h2; have h3 := congrArg List.length h2; simp only [List.length_nil, List.length_append] at h3; have := mW_pos k; omega

/-- Texts of 0 and 1 alone. -/
def bitL (l : List UInt8) : Bool := l.all (fun c => [48, 49].contains c)
theorem bitL_app (a b : List UInt8) : bitL (a ++ b) = (bitL a && bitL b) := by simp [bitL]
theorem mW_bit : ∀ k : Fin 6, bitL (mW k) = true := by decide
theorem fla_bit (p : Pg) : bitL (fla p) = true := by
  induction p with
  | nil => rfl
  | cons k p ih => rw [fla_cons, bitL_app, mW_bit, ih]; rfl
theorem mem_bit {l : List UInt8} : bitL l = true ↔ ∀ c ∈ l, c = 48 ∨ c = 49 := by
  unfold bitL; rw [List.all_eq_true]
  simp
theorem mD_bit (k : Fin 6) {s : List UInt8} (h : bitL s = true) : bitL (mD k s) = true := by
  rw [mem_bit] at h ⊢
  refine all6 (P := fun k => ∀ c ∈ mD k s, c = 48 ∨ c = 49) ?_ ?_ ?_ ?_ ?_ ?_ k <;> intro c hc <;> simp [mD0, mD1, mD2, mD3, mD4, mD5] at hc
  · rcases hc with hc | hc
    · exact h c hc
    · exact Or.inl hc
  · rcases hc with hc | hc
    · exact h c hc
    · exact Or.inr hc
  · exact h c hc
  · exact h c hc
  · obtain ⟨a, ha, rfl⟩ := hc
    rcases h a ha with rfl | rfl
    · exact Or.inr rfl
    · exact Or.inl rfl
  · exact h c (List.dropLast_subset _ hc)
theorem stp_bit (p : Pg) : bitL (stp p) = true := by
  have : ∀ (p : Pg) (s : List UInt8), bitL s = true → bitL (p.foldl (fun s k => mD k s) s) = true := by
    intro p
    induction p with
    | nil => intro s h; exact h
    | cons k p ih => intro s h; exact ih _ (mD_bit k h)
  exact this p [] rfl
theorem mD_len (k : Fin 6) (s : List UInt8) : (mD k s).length ≤ 2 * s.length + 1 := by
  refine all6 (P := fun k => (mD k s).length ≤ 2 * s.length + 1) ?_ ?_ ?_ ?_ ?_ ?_ k <;> simp [mD0, mD1, mD2, mD3, mD4, mD5] <;> omega

/-- The first word that a text begins with. -/
def fst6 (r : List UInt8) : Option (Fin 6) := [0, 1, 2, 3, 4, 5].find? (fun k => (mW k).isPrefixOf r)
/-- No written text on the way is longer than 24. -/
def oks (p : Pg) : Prop := ∀ i, i ≤ p.length → (stp (p.take i)).length ≤ 24
theorem oks_snoc {p : Pg} {k : Fin 6} (h : oks p) (h2 : (stp (p ++ [k])).length ≤ 24) : oks (p ++ [k]) := by
  intro i hi
  rcases Nat.lt_or_ge p.length i with h3 | h3
  · have : i = (p ++ [k]).length := by rw [List.length_append] at hi ⊢; simp at hi ⊢; omega
    rw [this, List.take_length]; exact h2
  · rw [List.take_append_of_le_length h3]; exact h i h3
theorem oks_self {p : Pg} (h : oks p) : (stp p).length ≤ 24 := by have := h p.length (Nat.le_refl _); rwa [List.take_length] at this
theorem oks_nil : oks [] := fun i _ => by simp [stp]

/-- A text of bytes. -/
def bt (l : List UInt8) : ByteArray := ⟨l.toArray⟩
theorem bt_app (a b : List UInt8) : bt a ++ bt b = bt (a ++ b) := by
  refine ByteArray.ext ?_
  rw [ByteArray.data_append]
  simp [bt]
theorem bt_size (a : List UInt8) : (bt a).size = a.length := by show (bt a).data.size = _; simp [bt]
theorem bt_list (a : List UInt8) : (bt a).data.toList = a := by simp [bt]
theorem bt_of (s : ByteArray) : bt s.data.toList = s := by refine ByteArray.ext ?_; simp [bt]
theorem bt_inj {a b : List UInt8} (h : bt a = bt b) : a = b := by rw [← bt_list a, h, bt_list]
theorem bt_cut (a : List UInt8) (i j : Nat) : (bt a).extract i j = bt ((a.take j).drop i) := by
  refine ByteArray.ext ?_
  rw [ByteArray.data_extract]
  refine Array.toList_inj.1 ?_
  rw [Array.toList_extract, List.extract_eq_take_drop]
  simp [bt, List.drop_take]
end Go.Proofs.YtdfcipdknfebpaaDoor
