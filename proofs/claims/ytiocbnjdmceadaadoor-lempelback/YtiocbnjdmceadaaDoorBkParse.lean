/- What is parsed comes back; no two phrases are the same. -/
import Derived.Test.YtiocbnjdmceadaaDoorPzMath
import Derived.Test.YtiocbnjdmceadaaDoorTxMath
namespace Go.Proofs.YtiocbnjdmceadaaDoor

/-- The texts of the phrases, one behind the other, and what is left, make the text. -/
theorem pz_texts : ∀ (l : List UInt8) (D : List (Nat × UInt8)) (o : Nat) (K : List (List UInt8)), Trie D K → o ≤ K.length → ∃ K', Trie (pz (D, o) l).1 K' ∧ (pz (D, o) l).2 ≤ K'.length ∧ K'.flatten ++ txA K' (pz (D, o) l).2 = K.flatten ++ txA K o ++ l
  | [], D, o, K, h, ho => ⟨K, h, ho, by simp [pz]⟩
  | c :: r, D, o, K, h, ho => by
    have e : pz (D, o) (c :: r) = pz (pzS (D, o) c) r := rfl
    rw [e]
    rcases h.step (c := c) ho with ⟨h1, _⟩ | ⟨h1, h2, h3⟩
    · rw [pzS_new (s := (D, o)) h1]
      obtain ⟨K', a1, a2, a3⟩ := pz_texts r (D ++ [(o, c)]) 0 (K ++ [txA K o ++ [c]]) (h.push ho h1) (Nat.zero_le _)
      exact ⟨K', a1, a2, by rw [a3]; simp [txA]⟩
    · rw [pzS_old (s := (D, o)) h1]
      obtain ⟨K', a1, a2, a3⟩ := pz_texts r D (numOf D (o, c)) K h h2
      exact ⟨K', a1, a2, by rw [a3, h3]; simp⟩
/-- A phrase as it may come in. -/
def ofP (p : Phr) : PhI := ⟨(p.of : Int), UInt8.ofNat p.next, p.last⟩
theorem get_front (K : List (List UInt8)) (o : Nat) : ([] :: K).getD o [] = txA K o := by
  cases o with
  | zero => rfl
  | succ o => simp [txA]
theorem phrs_run {D : List (Nat × UInt8)} {K : List (List UInt8)} (h : Trie D K) : ∀ j, j ≤ D.length → (((phrs D).map ofP).take j).foldl stepP ([[]], []) = ([] :: K.take j, (K.take j).flatten)
  | 0, _ => by simp
  | j + 1, hj => by
    have ih := phrs_run h j (by omega)
    have hd : D[j]? = some ((D[j]'(by omega)).1, (D[j]'(by omega)).2) := List.getElem?_eq_getElem (by omega)
    obtain ⟨h1, h2⟩ := h.of j _ _ hd
    have hkj : j < K.length := by rw [h.len]; omega
    have hp : ((phrs D).map ofP)[j]'(by simp [phrs]; omega) = ⟨((D[j]'(by omega)).1 : Int), (D[j]'(by omega)).2, false⟩ := by simp [phrs, ofP]
    rw [List.take_succ_eq_append_getElem (by simp [phrs]; omega), List.foldl_append, ih, hp]
    have hk : K[j]'hkj = txA K (D[j]'(by omega)).1 ++ [(D[j]'(by omega)).2] := by
      rw [List.getElem?_eq_getElem hkj] at h2
      exact Option.some.inj h2
    have hg : ([] :: K.take j).getD (D[j]'(by omega)).1 [] = txA K (D[j]'(by omega)).1 := by
      rw [get_front]
      unfold txA
      split
      · rfl
      · rw [List.getD_eq_getElem?_getD, List.getD_eq_getElem?_getD, List.getElem?_take_of_lt (by omega)]
    have ht : txtP ([] :: K.take j) ⟨((D[j]'(by omega)).1 : Int), (D[j]'(by omega)).2, false⟩ = K[j]'hkj := by
      unfold txtP
      rw [if_neg (show ¬ (false = true) by decide), Int.toNat_natCast, hg, hk]
    show ([] :: K.take j ++ [txtP ([] :: K.take j) _], (K.take j).flatten ++ txtP ([] :: K.take j) _) = _
    have e : K.take (j + 1) = K.take j ++ [K[j]'hkj] := List.take_succ_eq_append_getElem hkj
    rw [ht, e, List.flatten_append]
    simp
theorem scanP_all {n : Nat} : ∀ (r : List PhI) (i : Nat), (∀ (k : Nat) (p : PhI), r[k]? = some p → badP n (i + k) p = false) → scanP n r i = none
  | [], i, _ => rfl
  | p :: r, i, h => by
    have h0 := h 0 p rfl
    rw [Nat.add_zero] at h0
    rw [scanP_ok h0]
    exact scanP_all r (i + 1) (fun k q hq => by have := h (k + 1) q (by simpa using hq); rw [show i + 1 + k = i + (k + 1) by omega]; exact this)
theorem parsed_ok (L : List UInt8) (hL : L.length ≤ 600) : (phE ((pzL L).map ofP)).1 = 0 ∧ phT ((pzL L).map ofP) = L := by
  obtain ⟨K, h1, h2, h3⟩ := pz_texts L [] 0 [] Trie.nil (Nat.le_refl _)
  have hle := (pz_le L ([], 0) (Nat.le_refl _)).2
  simp only [List.flatten_nil, txA, if_true, List.nil_append, List.length_nil, Nat.zero_add] at h3 hle
  generalize hs : pz ([], 0) L = s at *
  obtain ⟨D, o⟩ := s
  have h1 : Trie D K := h1
  have h2 : o ≤ K.length := h2
  have hle : D.length ≤ L.length := hle
  have hrun := phrs_run h1 D.length (Nat.le_refl _)
  rw [List.take_of_length_le (by simp [phrs]), List.take_of_length_le (by rw [h1.len]; exact Nat.le_refl _)] at hrun
  have h3' : K.flatten ++ txA K o = L := h3
  have hpz : pzL L = pzO (D, o) := by unfold pzL; rw [hs]
  rw [hpz]
  have hlen : (pzO (D, o)).length ≤ 601 := by
    unfold pzO
    split
    · rw [phrs_length]; show D.length ≤ 601; omega
    · rw [List.length_append, phrs_length]; show D.length + 1 ≤ 601; omega
  have htext : phT ((pzO (D, o)).map ofP) = L := by
    unfold phT runP pzO
    simp only
    by_cases h0 : o = 0
    · rw [if_pos h0, hrun]
      rw [h0] at h3'
      simpa [txA] using h3'
    · rw [if_neg h0, List.map_append, List.foldl_append, hrun]
      show K.flatten ++ txtP ([] :: K) (ofP ⟨o, 0, true⟩) = L
      have : txtP ([] :: K) (ofP ⟨o, 0, true⟩) = txA K o := by
        unfold txtP ofP
        rw [if_pos rfl, Int.toNat_natCast, get_front]
      rw [this, h3']
  refine ⟨?_, htext⟩
  have hbad : ∀ (k : Nat) (p : PhI), ((pzO (D, o)).map ofP)[k]? = some p → badP ((pzO (D, o)).map ofP).length (0 + k) p = false := by
    intro k p hp
    rw [List.getElem?_map] at hp
    obtain ⟨q, hq, rfl⟩ := Option.map_eq_some_iff.1 hp
    have hin : ∀ (k : Nat) (q : Phr), (phrs D)[k]? = some q → badP ((pzO (D, o)).map ofP).length (0 + k) (ofP q) = false := fun k q hq => by
      rw [phrs, List.getElem?_map] at hq
      obtain ⟨d, hd, rfl⟩ := Option.map_eq_some_iff.1 hq
      obtain ⟨h4, _⟩ := h1.of k d.1 d.2 hd
      unfold badP ofP
      simp only [Bool.false_and, Bool.or_false, decide_eq_false_iff_not]
      omega
    by_cases h0 : o = 0
    · have e : pzO (D, o) = phrs D := by unfold pzO; rw [if_pos h0]
      rw [e] at hq
      exact hin k q hq
    · have e : pzO (D, o) = phrs D ++ [⟨o, 0, true⟩] := by unfold pzO; rw [if_neg h0]
      rcases Nat.lt_or_ge k (phrs D).length with h' | h'
      · rw [e, List.getElem?_append_left h'] at hq
        exact hin k q hq
      · rw [e, List.getElem?_append_right h'] at hq
        rcases Nat.eq_or_lt_of_le h' with e2 | e2
        · rw [← e2, Nat.sub_self] at hq
          obtain rfl : (⟨o, 0, true⟩ : Phr) = q := by simpa using hq
          unfold badP ofP
          simp only [Bool.true_and, Bool.or_eq_false_iff, decide_eq_false_iff_not]
          have hz : (UInt8.ofNat 0).toNat = 0 := rfl
          rw [List.length_map, e, List.length_append, ← e2, phrs_length, hz]
          rw [h1.len] at h2
          simp
          omega
        · rw [List.getElem?_eq_none (by simp; omega)] at hq; cases hq
  unfold phE
  rw [if_neg (by rw [List.length_map]; omega), scanP_all _ 0 hbad]
  simp only
  rw [htext, if_neg (by omega)]
/-- No two phrases are the same. -/
theorem parsed_apart (L : List UInt8) (i k : Nat) (a b : Phr) (hk : k < i) (ha : (pzL L)[i]? = some a) (hb : (pzL L)[k]? = some b) : ¬ (a.of = b.of ∧ a.next = b.next ∧ a.last = b.last) := by
  obtain ⟨K, h1, h2, _⟩ := pz_texts L [] 0 [] Trie.nil (Nat.le_refl _)
  have hpz : pzL L = pzO (pz ([], 0) L) := rfl
  rw [hpz] at ha hb
  generalize pz ([], 0) L = s at *
  obtain ⟨D, o⟩ := s
  have h1 : Trie D K := h1
  have hD : ∀ (i k : Nat) (a b : Phr), k < i → (phrs D)[i]? = some a → (phrs D)[k]? = some b → ¬ (a.of = b.of ∧ a.next = b.next ∧ a.last = b.last) := by
    intro i k a b hk ha hb ⟨e1, e2, _⟩
    rw [phrs, List.getElem?_map] at ha hb
    obtain ⟨d, hd, rfl⟩ := Option.map_eq_some_iff.1 ha
    obtain ⟨d', hd', rfl⟩ := Option.map_eq_some_iff.1 hb
    simp only at e1 e2
    have e3 : d.2 = d'.2 := UInt8.toNat_inj.1 e2
    obtain ⟨_, x1⟩ := h1.of i d.1 d.2 hd
    obtain ⟨_, x2⟩ := h1.of k d'.1 d'.2 hd'
    rw [e1, e3] at x1
    have := h1.apart _ _ _ x1 x2
    omega
  by_cases h0 : o = 0
  · have e : pzO (D, o) = phrs D := by unfold pzO; rw [if_pos h0]
    rw [e] at ha hb
    exact hD i k a b hk ha hb
  · have e : pzO (D, o) = phrs D ++ [⟨o, 0, true⟩] := by unfold pzO; rw [if_neg h0]
    rw [e] at ha hb
    have hi : i < (phrs D ++ [(⟨o, 0, true⟩ : Phr)]).length := by
      rcases Nat.lt_or_ge i (phrs D ++ [(⟨o, 0, true⟩ : Phr)]).length with h' | h'
      · exact h'
      · rw [List.getElem?_eq_none h'] at ha; cases ha
    simp at hi
    rw [List.getElem?_append_left (by omega)] at hb
    rcases Nat.lt_or_ge i (phrs D).length with h' | h'
    · rw [List.getElem?_append_left h'] at ha
      exact hD i k a b hk ha hb
    · rw [List.getElem?_append_right h', show i - (phrs D).length = 0 by omega] at ha
      obtain rfl : (⟨o, 0, true⟩ : Phr) = a := by simpa using ha
      rw [phrs, List.getElem?_map] at hb
      obtain ⟨d', hd', rfl⟩ := Option.map_eq_some_iff.1 hb
      rintro ⟨_, _, e3⟩
      simp at e3
end Go.Proofs.YtiocbnjdmceadaaDoor
