/- What Parse and Slide leave in memory, as Text and Unslide take it. -/
import Derived.Test.YtiocbnjdmceadaaDoorBkSlide
import Derived.Test.YtiocbnjdmceadaaDoorBkParse
import Derived.Test.YtiocbnjdmceadaaDoorTxP
import Derived.Test.YtiocbnjdmceadaaDoorUnR
import Derived.Test.YtiocbnjdmceadaaDoorSlideQ
import Derived.Test.YtiocbnjdmceadaaDoorAbP
namespace Go.Proofs.YtiocbnjdmceadaaDoor
open Go.RowKit

theorem phrC_cells : ∀ (l : List Phr) (i : Nat) (c : Phr), l[i]? = some c → (phrsC l)[i * 3]? = some (.int .i64 (c.of : Int)) ∧ (phrsC l)[i * 3 + 1]? = some (.int .u8 (c.next : Int)) ∧ (phrsC l)[i * 3 + 2]? = some (.bool c.last)
  | [], i, c, h => by simp at h
  | d :: r, 0, c, h => by
    obtain rfl : d = c := by simpa using h
    exact ⟨rfl, rfl, rfl⟩
  | d :: r, i + 1, c, h => by
    obtain ⟨h0, h1, h2⟩ := phrC_cells r i c (by simpa using h)
    have e : ∀ k, (phrsC (d :: r))[(i + 1) * 3 + k]? = (phrsC r)[i * 3 + k]? := fun k => by
      show (phrC d ++ phrsC r)[(i + 1) * 3 + k]? = _
      rw [List.getElem?_append_right (by show 3 ≤ _; omega)]
      congr 1
      show (i + 1) * 3 + k - 3 = _
      omega
    exact ⟨by have := e 0; simp only [Nat.add_zero] at this; rw [this]; exact h0, by rw [e 1]; exact h1, by rw [e 2]; exact h2⟩
theorem lt_of_some {α : Type} {l : List α} {i : Nat} {c : α} (h : l[i]? = some c) : i < l.length := by
  rcases Nat.lt_or_ge i l.length with h' | h'
  · exact h'
  · rw [List.getElem?_eq_none h'] at h; cases h
theorem pzL_next (L : List UInt8) : ∀ p ∈ pzL L, p.next < 256 := by
  intro p hp
  have h : ∀ p ∈ phrs (pz ([], 0) L).1, p.next < 256 := fun p hp => by
    unfold phrs at hp
    obtain ⟨d, _, rfl⟩ := List.mem_map.1 hp
    exact d.2.toNat_lt
  have e : pzL L = pzO (pz ([], 0) L) := rfl
  rw [e] at hp
  unfold pzO at hp
  split at hp
  · exact h p hp
  · rcases List.mem_append.1 hp with hp | hp
    · exact h p hp
    · obtain rfl := List.mem_singleton.1 hp
      exact (show 0 < 256 by decide)
theorem pzL_short (L : List UInt8) : (pzL L).length ≤ L.length + 1 := by
  have h := (pz_le L ([], 0) (Nat.le_refl _)).2
  unfold pzL pzO
  split
  · rw [phrs_length]; simp at h; omega
  · rw [List.length_append, phrs_length]; simp at h ⊢; omega
theorem u8_back {n : Nat} (h : n < 256) : (UInt8.ofNat n).toNat = n := by
  rw [UInt8.toNat_ofNat']
  omega
theorem phiAt_pz {w : World} {base : Nat} {t : TypeId} {v : Value} {L : List UInt8} (h : w.ownsRow base t 3 v (pzL L).length (phrsC (pzL L))) : PhiAt w v ((pzL L).map ofP) := by
  rcases h.2 with ⟨rfl, hn⟩ | ⟨g, cap, cur, rfl, _⟩
  · have e : pzL L = [] := List.eq_nil_of_length_eq_zero hn
    rw [e]
    exact ⟨_, _, rfl, fun i c hc => by simp at hc⟩
  · refine ⟨_, cap, by rw [List.length_map], fun i c hc => ⟨g, 0, rfl, ?_⟩⟩
    rw [List.getElem?_map] at hc
    obtain ⟨d, hd, rfl⟩ := Option.map_eq_some_iff.1 hc
    have hi := lt_of_some hd
    have hx := pzL_next L d (List.mem_of_getElem? hd)
    obtain ⟨h0, h1, h2⟩ := phrC_cells _ i d hd
    have e : ∀ j, j < (pzL L).length * 3 → w.cell? ⟨g, j, none⟩ = (phrsC (pzL L))[j]? := fun j hj => h.cellAt j hj
    rw [Nat.zero_add]
    refine ⟨?_, ?_, ?_⟩
    · rw [e _ (by omega)]; exact h0
    · rw [e _ (by omega), h1]
      show _ = some (Value.int .u8 ((UInt8.ofNat d.next).toNat : Int))
      rw [u8_back hx]
    · rw [e _ (by omega)]; exact h2
theorem slL_next (L : List UInt8) (w : Nat) : ∀ f p c, c ∈ slL L w f p → c.next < 256
  | 0, p, c, h => by simp [slL] at h
  | f + 1, p, c, h => by
    have ih := slL_next L w f (p + (bst L p (min w p)).2 + 1) c
    unfold slL at h
    split at h
    · split at h
      · rcases List.mem_cons.1 h with rfl | h
        · exact UInt8.toNat_lt _
        · exact ih h
      · obtain rfl := List.mem_singleton.1 h
        exact (show 0 < 256 by decide)
    · simp at h
theorem cpiAt_sl {w : World} {base : Nat} {t : TypeId} {v : Value} {L : List UInt8} {win f p : Nat} (h : w.ownsRow base t 4 v (slL L win f p).length (cpysC (slL L win f p))) : CpiAt w v ((slL L win f p).map ofC) := by
  rcases h.2 with ⟨rfl, hn⟩ | ⟨g, cap, cur, rfl, _⟩
  · have e : slL L win f p = [] := List.eq_nil_of_length_eq_zero hn
    rw [e]
    exact ⟨_, _, rfl, fun i c hc => by simp at hc⟩
  · refine ⟨_, cap, by rw [List.length_map], fun i c hc => ⟨g, 0, rfl, ?_⟩⟩
    rw [List.getElem?_map] at hc
    obtain ⟨d, hd, rfl⟩ := Option.map_eq_some_iff.1 hc
    have hi := lt_of_some hd
    have hx := slL_next L win f p d (List.mem_of_getElem? hd)
    obtain ⟨h0, h1, h2, h3⟩ := cpysC_at _ i d hd
    have e : ∀ j, j < (slL L win f p).length * 4 → w.cell? ⟨g, j, none⟩ = (cpysC (slL L win f p))[j]? := fun j hj => h.cellAt j hj
    rw [Nat.zero_add]
    refine ⟨?_, ?_, ?_, ?_⟩
    · rw [e _ (by omega)]; exact h0
    · rw [e _ (by omega)]; exact h1
    · rw [e _ (by omega), h2]
      show _ = some (Value.int .u8 ((UInt8.ofNat d.next).toNat : Int))
      rw [u8_back hx]
    · rw [e _ (by omega)]; exact h3
end Go.Proofs.YtiocbnjdmceadaaDoor
