/- Lists of lists of numbers in memory. -/
import Derived.Test.YtobmngkaoahmiaaDoorTab
import Derived.Test.YtobmngkaoahmiaaDoorSameN
import Derived.Test.YtobmngkaoahmiaaDoorValidWalk
import Derived.Deep.RegionHeld3
namespace Go.Proofs.YtobmngkaoahmiaaDoor
open Go.RowKit

theorem Tryd.infoInts : (Tryd.prog.info? 22).map (fun i => (i.zero, i.size, i.bytes)) = some (some (.slice none 0 0), 1, 24) := by kernel_rfl
theorem own_past {w w' : World} {base : Nat} {t : TypeId} {sz : Nat} {v : Value} {n : Nat} {xs : List Value} (h : w.ownsRow base t sz v n xs) (hb : Below w.heap.size w w') : w'.ownsRow base t sz v n xs := by
  obtain ⟨hl, hr⟩ := h
  refine ⟨hl, ?_⟩
  rcases hr with hr | ⟨g, cap, cur, hv, hb1, hh, rest⟩
  · exact Or.inl hr
  · exact Or.inr ⟨g, cap, cur, hv, hb1, by rw [hb.block g (heap_lt hh)]; exact hh, rest⟩
/-- A row of another kind beside the one that is grown. -/
theorem own_beside {w w' : World} {b1 b2 : Nat} {t1 t2 : TypeId} {v u : Value} {n m s1 s2 : Nat} {xs ys : List Value} (h : w.ownsRow b1 t1 s1 v n xs) (k : w.ownsRow b2 t2 s2 u m ys) (ht : t1 ≠ t2) (hg : w.grownBy w' u.ownBlock) : w'.ownsRow b1 t1 s1 v n xs := by
  obtain ⟨hl, hr⟩ := h
  refine ⟨hl, ?_⟩
  rcases hr with hr | ⟨g, cap, cur, hv, hb1, hh, rest⟩
  · exact Or.inl hr
  · refine Or.inr ⟨g, cap, cur, hv, hb1, ?_, rest⟩
    rw [hg.block g (heap_lt hh) (fun e => ?_)]
    · exact hh
    · rcases k.2 with ⟨rfl, _⟩ | ⟨g', cap', cur', rfl, _, hh', _⟩
      · cases e
      · obtain rfl : g = g' := by simpa [Value.ownBlock] using e
        rw [hh] at hh'
        simp at hh'
        exact ht hh'.2
theorem own_put {w : World} {base : Nat} {t : TypeId} {sz : Nat} {v : Value} {n : Nat} {xs : List Value} (h : w.ownsRow base t sz v n xs) (a : Addr) (x : Value) (hne : v.ownBlock ≠ some a.block) : (w.setCell a x).ownsRow base t sz v n xs := by
  refine ⟨h.1, ?_⟩
  rcases h.2 with hn | ⟨g, cap, cur, hv, hg, hh, rest⟩
  · exact Or.inl hn
  · refine Or.inr ⟨g, cap, cur, hv, hg, ?_, rest⟩
    rw [Below.heap_setCell _ _ _ _ (fun e => hne (by rw [hv, ← e]; rfl))]
    exact hh

/-- A list of lists, to be read. -/
def LolAt (w : World) (v : Value) (L : List (List Int)) : Prop := ∃ ad cap, v = .slice ad L.length cap ∧ ∀ (i : Nat) (r : List Int), L[i]? = some r → ∃ b o u, ad = some ⟨b, o, none⟩ ∧ w.cell? ⟨b, o + i, none⟩ = some u ∧ NumsAt w u r.length (atF r)
theorem LolAt.later {w w' : World} {v : Value} {L : List (List Int)} (h : LolAt w v L) (hb : Below w.heap.size w w') : LolAt w' v L := by
  obtain ⟨ad, cap, rfl, h⟩ := h
  refine ⟨ad, cap, rfl, fun i r hr => ?_⟩
  obtain ⟨b, o, u, h1, h2, h3⟩ := h i r hr
  exact ⟨b, o, u, h1, by rw [hb.cell (cell_lt h2)]; exact h2, h3.later hb⟩
/-- One that is made: the list's own row, and that of each of its lists. -/
def LolOwn (Bo Br : Nat) (w : World) (v : Value) (L : List (List Int)) (vs : List Value) : Prop := w.ownsRow Bo 22 1 v L.length vs ∧ ∀ (i : Nat) (r : List Int), L[i]? = some r → ∃ u, vs[i]? = some u ∧ w.ownsRow Br 3 1 u r.length (cellL r)
theorem LolOwn.nil (Bo Br : Nat) (w : World) : LolOwn Bo Br w (.slice none 0 0) [] [] := ⟨⟨rfl, Or.inl ⟨rfl, rfl⟩⟩, fun i r h => by simp at h⟩
theorem LolOwn.later {Bo Br : Nat} {w w' : World} {v : Value} {L : List (List Int)} {vs : List Value} (h : LolOwn Bo Br w v L vs) (hb : Below w.heap.size w w') : LolOwn Bo Br w' v L vs :=
  ⟨own_past h.1 hb, fun i r hr => by obtain ⟨u, h1, h2⟩ := h.2 i r hr; exact ⟨u, h1, own_past h2 hb⟩⟩
theorem own_keep {w w' : World} {base : Nat} {t : TypeId} {sz : Nat} {v : Value} {n : Nat} {xs : List Value} (h : w.ownsRow base t sz v n xs) (hk : ∀ k, base ≤ k → k < w.heap.size → w'.heap[k]? = w.heap[k]?) : w'.ownsRow base t sz v n xs := by
  obtain ⟨hl, hr⟩ := h
  refine ⟨hl, ?_⟩
  rcases hr with hr | ⟨g, cap, cur, hv, hb1, hh, rest⟩
  · exact Or.inl hr
  · exact Or.inr ⟨g, cap, cur, hv, hb1, by rw [hk g hb1 (heap_lt hh)]; exact hh, rest⟩
theorem LolOwn.keep {B : Nat} {w w' : World} {v : Value} {L : List (List Int)} {vs : List Value} (h : LolOwn B B w v L vs) (hk : ∀ k, B ≤ k → k < w.heap.size → w'.heap[k]? = w.heap[k]?) : LolOwn B B w' v L vs :=
  ⟨own_keep h.1 hk, fun i r hr => by obtain ⟨u, h1, h2⟩ := h.2 i r hr; exact ⟨u, h1, own_keep h2 hk⟩⟩
theorem LolOwn.lol {Bo Br : Nat} {w : World} {v : Value} {L : List (List Int)} {vs : List Value} (h : LolOwn Bo Br w v L vs) : LolAt w v L := by
  obtain ⟨⟨hl, hr⟩, hv⟩ := h
  rcases hr with ⟨hv0, h0⟩ | ⟨g, cap, cur, hv0, _, hh, _, _, hs, ht⟩
  · rw [h0] at hl
    obtain rfl : L = [] := List.length_eq_zero_iff.1 h0
    exact ⟨none, 0, hv0, fun i r hr => by simp at hr⟩
  · refine ⟨_, cap, hv0, fun i r hr => ?_⟩
    obtain ⟨u, h1, h2⟩ := hv i r hr
    refine ⟨g, 0, u, rfl, ?_, numsAt_row h2⟩
    have hi : i < L.length := (List.getElem?_eq_some_iff.1 hr).1
    rw [← h1, ← ht, List.getElem?_take_of_lt (by omega), Nat.zero_add]
    simp [World.cell?, hh]
/-- Behind an append. -/
theorem LolOwn.push {Bo Br : Nat} {w w' : World} {v v' u : Value} {L : List (List Int)} {vs : List Value} {r : List Int} (h : LolOwn Bo Br w v L vs) (hr : w.ownsRow Br 3 1 u r.length (cellL r)) (hg : w.grownBy w' v.ownBlock) (ho : w'.ownsRow Bo 22 1 v' (L.length + 1) (vs ++ [u])) : LolOwn Bo Br w' v' (L ++ [r]) (vs ++ [u]) := by
  have hvl : vs.length = L.length := by have := h.1.1; simpa using this
  refine ⟨by rw [List.length_append]; exact ho, fun i q hq => ?_⟩
  rcases Nat.lt_or_ge i L.length with h1 | h1
  · rw [List.getElem?_append_left h1] at hq
    obtain ⟨x, h2, h3⟩ := h.2 i q hq
    exact ⟨x, by rw [List.getElem?_append_left (by omega)]; exact h2, own_beside h3 h.1 (by decide) hg⟩
  · rw [List.getElem?_append_right h1] at hq
    obtain ⟨rfl, h5⟩ : r = q ∧ i - L.length = 0 := by
      rcases hk : i - L.length with _ | k
      · rw [hk] at hq; exact ⟨by simpa using hq, rfl⟩
      · rw [hk] at hq; simp at hq
    exact ⟨u, by rw [List.getElem?_append_right (by omega), hvl, h5]; rfl, own_beside hr h.1 (by decide) hg⟩
theorem LolOwn.form {Bo Br : Nat} {w : World} {v : Value} {L : List (List Int)} {vs : List Value} (h : LolOwn Bo Br w v L vs) : ∃ ad cap, v = .slice ad L.length cap := by
  rcases h.1.2 with ⟨rfl, h0⟩ | ⟨g, cap, cur, rfl, _⟩
  · exact ⟨none, 0, by rw [h0]⟩
  · exact ⟨_, _, rfl⟩
theorem LolOwn.put {Bo Br : Nat} {w : World} {v : Value} {L : List (List Int)} {vs : List Value} (h : LolOwn Bo Br w v L vs) (a : Addr) (x : Value) (h1 : v.ownBlock ≠ some a.block) (h2 : a.block < Br) : LolOwn Bo Br (w.setCell a x) v L vs := by
  refine ⟨own_put h.1 a x h1, fun i r hr => ?_⟩
  obtain ⟨u, h3, h4⟩ := h.2 i r hr
  refine ⟨u, h3, own_put h4 a x (fun e => ?_)⟩
  rcases h4.2 with ⟨rfl, _⟩ | ⟨g, cap, cur, rfl, hge, _⟩
  · cases e
  · have : g = a.block := by simpa [Value.ownBlock] using e
    omega

theorem own_built {w : World} {base g : Nat} {t : TypeId} {cs : Array Value} (hg : base ≤ g) (hh : w.heap[g]? = some (.cells cs t)) (hc : cs.size ≤ 1000) : w.ownsRow base t 1 (.slice (some ⟨g, 0, none⟩) cs.size cs.size) cs.size cs.toList :=
  ⟨by simp, Or.inr ⟨g, cs.size, cs, rfl, hg, hh, Nat.le_refl _, by unfold maxLen; omega, by simp, by rw [Nat.mul_one, ← Array.length_toList, List.take_length]⟩⟩

end Go.Proofs.YtobmngkaoahmiaaDoor
