/- A list of fractions of any size in memory, as it grows: no whole number lies in its own block, so what is appended turns no digit. -/
import Derived.Test.YtnihclkaaglnjaaDoorCnMath
import Derived.Test.YtnihclkaaglnjaaDoorRatioOps
import Derived.Test.YtnihclkaaglnjaaDoorTabCopy
import Derived.Deep.AppendLies
namespace Go.Proofs.YtnihclkaaglnjaaDoor
open Go.RowKit

def notI (v : Value) : Prop := ∀ x, v ≠ .int .i64 x
/-- Where a block's cells are none of them whole numbers. -/
theorem noInts_of_block {w : World} {g : Nat} {cs : Array Value} {t : TypeId} {q : Nat × Nat} (hg : w.heap[g]? = some (.cells cs t q)) (h : ∀ u, u ∈ cs.toList → notI u) : NoInts w g := fun j x e => by
  have e2 : cs[j]? = some (.int .i64 x) := by simpa [World.cell?, hg] using e
  exact h _ (Array.mem_toList_iff.mpr (Array.mem_of_getElem? e2)) x rfl
theorem zero_notI {z : Value} (hz : ∀ u, u ∈ z.cells.toList → notI u) (k : Nat) : ∀ u, u ∈ (Builtin.zeroCells z.cells k).toList → notI u := fun u hu => by
  obtain ⟨j, hj⟩ := List.getElem?_of_mem hu
  simp only [Builtin.zeroCells, Array.getElem?_toList] at hj
  have hu2 := Array.mem_of_getElem? hj
  simp only [Array.mem_map] at hu2
  obtain ⟨i, hi, rfl⟩ := hu2
  refine hz _ ?_
  have hlt : i < k * z.cells.size := by simpa using hi
  have hs : 0 < z.cells.size := by
    rcases Nat.eq_zero_or_pos z.cells.size with h | h
    · rw [h, Nat.mul_zero] at hlt; omega
    · exact h
  have hm := Nat.mod_lt i hs
  rw [getElem!_pos z.cells _ hm]
  exact Array.mem_toList_iff.mpr (Array.getElem_mem hm)
theorem row_notI {w : World} {base : Nat} {e : TypeId} {size : Nat} {n cap g : Nat} {xs : List Value} (h : w.ownsRow base e size (.slice (some ⟨g, 0, none⟩) n cap) n xs) (hcl : NoInts w g) : ∀ u, u ∈ xs → notI u := fun u hu x e => by
  obtain ⟨j, hj⟩ := List.getElem?_of_mem hu
  have hc := h.cells (g := g) rfl j u hj
  rw [add_plain, Nat.zero_add, e] at hc
  exact hcl j x hc
/-- An append onto a block without whole numbers leaves one. -/
theorem append_clean {P : Program} (w : World) {t ty : TypeId} {base : Nat} {e : TypeId} {i : TypeInfo} {z : Value} {size bytes : Nat} (ht : P.underlying t = some (.slice e)) (hi : P.info? e = some i) (hz : i.zero = some z)
    (hsize : i.size = size) (hby : i.bytes = bytes) {v : Value} {n : Nat} {xs : List Value} (hown : w.ownsRow base e size v n xs)
    {ad : Addr} {m c : Nat} {news : List Value} (hl : news.length = m * size) (hnews : ∀ j u, news[j]? = some u → w.cell? (ad.add j) = some u) (h1 : ∀ u ∈ news, u.oneCell' = true)
    (hm : 0 < m) (h63 : n + m ≤ maxLen) (hbytes : (n + m) * bytes ≤ 140737488355328) (hz0 : ∀ u, u ∈ z.cells.toList → notI u) (hnw : ∀ u, u ∈ news → notI u) (hcl : ∀ g, v.ownBlock = some g → NoInts w g)
    {g cap : Nat} {w' : World} (hr : (Builtin.append_ #[t, t] ty #[v, .slice (some ad) m c]).run P w = .ok (.slice (some ⟨g, 0, none⟩) (n + m) cap) w') : NoInts w' g := by
  subst hsize
  subst hby
  unfold maxLen at h63
  have hnew : ∀ (cs : Array Value), (∀ u, u ∈ cs.toList → notI u) → NoInts (w.drew.alloc (.cells cs e)) w.heap.size := fun cs hcs => noInts_of_block (heap_alloc_new w.drew _) hcs
  rcases hown.2 with ⟨rfl, rfl⟩ | ⟨g0, cap0, cur, rfl, hbg, hg, hnc, hcm, hcs, htake⟩
  · have hr2 := run_append_nil (P := P) w t ty e i z ht hi hz ad m c news hl hnews hm (by omega) (by rw [Nat.zero_add] at hbytes; omega)
    rw [hr] at hr2
    simp only [Result.ok.injEq, Value.slice.injEq, Option.some.injEq, Addr.mk.injEq, and_true] at hr2
    obtain ⟨⟨rfl, _⟩, rfl⟩ := hr2
    refine hnew _ fun u hu => ?_
    rw [Array.toList_append] at hu
    rcases List.mem_append.mp hu with h | h
    · exact hnw u (by simpa using h)
    · exact zero_notI hz0 _ u h
  · have hc0 := hcl g0 rfl
    by_cases hroom : n + m ≤ cap0
    · have hfit : n * i.size + news.length ≤ cur.size := by rw [hl, hcs, ← Nat.add_mul]; exact Nat.mul_le_mul_right _ hroom
      have hr2 := run_append_room (P := P) w t ty e i ht hi g0 n cap0 cur hg ad m c news hl hnews h1 hroom hfit
      rw [hr] at hr2
      simp only [Result.ok.injEq, Value.slice.injEq, Option.some.injEq, Addr.mk.injEq, and_true, true_and] at hr2
      obtain ⟨⟨rfl, _⟩, rfl⟩ := hr2
      have hcur : ∀ u, u ∈ cur.toList → notI u := fun u hu x e2 => by
        obtain ⟨j, hj⟩ := List.getElem?_of_mem hu
        refine hc0 j x ?_
        rw [Array.getElem?_toList, e2] at hj
        simp [World.cell?, hg, hj]
      refine noInts_of_block (setRow_heap w g cur _ e _ hg) fun u hu => ?_
      simp only [List.append_assoc, List.mem_append] at hu
      rcases hu with h | h | h
      · exact hcur u (List.mem_of_mem_take h)
      · exact hnw u h
      · exact hcur u (List.mem_of_mem_drop h)
    · have hr2 := run_append_grow (P := P) w t ty e i z ht hi hz ⟨g0, 0, none⟩ n cap0 xs hown.1 (hown.cells (g := g0) rfl) ad m c news hl hnews (by omega) (by omega) (growslice_fits (by omega) hbytes)
      rw [hr] at hr2
      simp only [Result.ok.injEq, Value.slice.injEq, Option.some.injEq, Addr.mk.injEq, and_true, true_and] at hr2
      obtain ⟨⟨rfl, _⟩, rfl⟩ := hr2
      refine hnew _ fun u hu => ?_
      simp only [Array.toList_append, List.append_assoc, List.mem_append] at hu
      rcases hu with h | h | h
      · exact row_notI hown hc0 u h
      · exact hnw u h
      · exact zero_notI hz0 _ u h
/-- The same at a step of a region that draws its order. -/
theorem step_append_clean {P : Program} (w : World) {ops : Array Oper} {o : Oper} {a : Act} {K : Act → World → Prop} {Q : Exit → Act → World → Prop} {E : Prop} (hgd : o.guard = none) (s x : Operand) (t : TypeId)
    (ho : o.op = .call { callee := .builtin .append, args := #[s, x], argTypes := #[t, t] })
    (base : Nat) (e : TypeId) (i : TypeInfo) (z : Value) (size bytes : Nat) (ht : P.underlying t = some (.slice e)) (hI : P.info? e = some i ∧ i.zero = some z ∧ i.size = size ∧ i.bytes = bytes) (hzs : z.cells.size = size) (hsz : 0 < size)
    (v : Value) (n : Nat) (xs : List Value) (hs : a.eval s = v) (hown : w.ownsRow base e size v n xs)
    (ad : Addr) (m c : Nat) (news : List Value) (hx : a.eval x = .slice (some ad) m c) (hl : news.length = m * size) (hnews : ∀ j u, news[j]? = some u → w.cell? (ad.add j) = some u) (h1 : ∀ u ∈ news, u.oneCell' = true)
    (hm : 0 < m) (hN : n + m ≤ 100000) (hB : bytes ≤ 1000) (hbase : base ≤ w.heap.size) (hz0 : ∀ u, u ∈ z.cells.toList → notI u) (hnw : ∀ u, u ∈ news → notI u) (hcl : ∀ g, v.ownBlock = some g → NoInts w g)
    (h : ∀ g cap w', w'.ownsRow base e size (.slice (some ⟨g, 0, none⟩) (n + m) cap) (n + m) (xs ++ news) → w.grownBy w' v.ownBlock → NoInts w' g → K (a.put o.dst (.slice (some ⟨g, 0, none⟩) (n + m) cap)) w') :
    if Region.wanted o (yielded ops a.tmps) = true then Oper.wp P o a w K Q else E := by
  obtain ⟨hi, hz, hsize, hby⟩ := hI
  have h63 : n + m ≤ maxLen := by unfold maxLen; omega
  have hbytes : (n + m) * bytes ≤ 140737488355328 := Nat.le_trans (Nat.mul_le_mul hN hB) (by decide)
  obtain ⟨g, cap, w', hr, h2, h3, _, _⟩ := run_append_lies (P := P) w t o.type base e i z size bytes ht hi hz hsize hby hzs hsz v n xs hown ad m c news hl hnews h1 hm h63 hbytes hbase _ rfl
  have hC := append_clean w ht hi hz hsize hby hown hl hnews h1 hm h63 hbytes hz0 hnw hcl hr
  have hw : Region.wanted o (yielded ops a.tmps) = true := by simp [Region.wanted, hgd]
  rw [if_pos hw]
  unfold Oper.wp
  simp [execOp, ho, resolve, invoke, builtin, hs, hx, hr, Result.andThen]
  exact h g cap w' h2 h3 hC

/-- The cells of fractions from 0 on: a sign, two numbers. -/
def rtL : List (Value × Value) → List Value
  | [] => []
  | c :: r => .bool false :: c.1 :: c.2 :: rtL r
theorem rtL_append : ∀ a b, rtL (a ++ b) = rtL a ++ rtL b
  | [], b => rfl
  | p :: a, b => by simp [rtL, rtL_append a b]
theorem rtL_length : ∀ l, (rtL l).length = l.length * 3
  | [] => rfl
  | p :: r => by simp [rtL, rtL_length r]; omega
theorem rtL_at : ∀ (l : List (Value × Value)) (i : Nat) (c : Value × Value), l[i]? = some c → (rtL l)[i * 3]? = some (.bool false) ∧ (rtL l)[i * 3 + 1]? = some c.1 ∧ (rtL l)[i * 3 + 2]? = some c.2
  | [], i, p, h => by simp at h
  | d :: r, 0, p, h => by
    obtain rfl : d = p := by simpa using h
    exact ⟨rfl, rfl, rfl⟩
  | d :: r, i + 1, p, h => by
    obtain ⟨h0, h1, h2⟩ := rtL_at r i p (by simpa using h)
    have e : ∀ k, (rtL (d :: r))[(i + 1) * 3 + k]? = (rtL r)[i * 3 + k]? := fun k => by
      rw [show (i + 1) * 3 + k = i * 3 + k + 1 + 1 + 1 by omega]
      rfl
    exact ⟨by rw [show (i + 1) * 3 = (i + 1) * 3 + 0 by omega, e 0]; exact h0, by rw [e 1]; exact h1, by rw [e 2]; exact h2⟩
/-- Fractions of any size from 0 on in memory. -/
def RtAt (w : World) (v : Value) (l : List (Nat × Nat)) : Prop := ∃ ad cap, v = .slice ad l.length cap ∧ ∀ i p, l[i]? = some p → ∃ b o u q, ad = some ⟨b, o, none⟩ ∧ w.cell? ⟨b, o + i * 3, none⟩ = some (.bool false) ∧ w.cell? ⟨b, o + i * 3 + 1, none⟩ = some u ∧ w.cell? ⟨b, o + i * 3 + 2, none⟩ = some q ∧ BigAt w u p.1 ∧ BigAt w q p.2
theorem RtAt.later {w w' : World} {v : Value} {l : List (Nat × Nat)} (h : RtAt w v l) (hb : Below w.heap.size w w') : RtAt w' v l := by
  obtain ⟨ad, cap, hv, hr⟩ := h
  refine ⟨ad, cap, hv, fun i p hp => ?_⟩
  obtain ⟨b, o, u, q, e, h0, h1, h2, h3, h4⟩ := hr i p hp
  exact ⟨b, o, u, q, e, by rw [hb.cell (cell_lt h0)]; exact h0, by rw [hb.cell (cell_lt h1)]; exact h1, by rw [hb.cell (cell_lt h2)]; exact h2, h3.later hb, h4.later hb⟩
/-- As it grows. -/
structure RtOwn (B : Nat) (w : World) (v : Value) (l : List (Nat × Nat)) (cs : List (Value × Value)) : Prop where
  own : w.ownsRow B 47 3 v l.length (rtL cs)
  clean : ∀ g, v.ownBlock = some g → NoInts w g
  len : cs.length = l.length
  big : ∀ (i : Nat) (c : Value × Value) (p : Nat × Nat), cs[i]? = some c → l[i]? = some p → BigAt w c.1 p.1 ∧ BigAt w c.2 p.2
theorem RtOwn.later {B : Nat} {w w' : World} {v : Value} {l : List (Nat × Nat)} {cs : List (Value × Value)} (h : RtOwn B w v l cs) (hb : Below w.heap.size w w') : RtOwn B w' v l cs :=
  ⟨own_past h.own hb, fun g hg => (h.clean g hg).later (h.own.lt g hg).2 hb, h.len, fun i c p hc hp => ⟨(h.big i c p hc hp).1.later hb, (h.big i c p hc hp).2.later hb⟩⟩
theorem rtOwn_nil (B : Nat) (w : World) : RtOwn B w (.slice none 0 0) [] [] := ⟨World.ownsRow_nil _ _ _ _, fun g hg => (by cases hg), rfl, fun i c p hc => (by simp at hc)⟩
theorem RtOwn.at {B : Nat} {w : World} {v : Value} {l : List (Nat × Nat)} {cs : List (Value × Value)} (h : RtOwn B w v l cs) : RtAt w v l := by
  obtain ⟨hl, hr⟩ := h.own
  rcases hr with ⟨rfl, hx⟩ | ⟨g, cap, cur, rfl, hb, hh, _, _, hs, ht⟩
  · have h0 : l = [] := by
      cases l with
      | nil => rfl
      | cons p r => simp at hx
    subst h0
    exact ⟨none, 0, rfl, fun i p hp => by simp at hp⟩
  · refine ⟨_, cap, rfl, fun i p hp => ?_⟩
    have hi : i < l.length := (List.getElem?_eq_some_iff.mp hp).1
    obtain ⟨c, hc⟩ : ∃ c, cs[i]? = some c := ⟨cs[i]'(by rw [h.len]; exact hi), by simp [h.len, hi]⟩
    obtain ⟨h0, h1, h2⟩ := rtL_at cs i c hc
    have hcell : ∀ j, j < l.length * 3 → w.cell? ⟨g, 0 + j, none⟩ = (rtL cs)[j]? := fun j hj => by
      rw [← ht, List.getElem?_take_of_lt hj]
      simp [World.cell?, hh]
    obtain ⟨b1, b2⟩ := h.big i c p hc hp
    exact ⟨g, 0, c.1, c.2, rfl, by rw [hcell _ (by omega)]; exact h0, by rw [show 0 + i * 3 + 1 = 0 + (i * 3 + 1) by omega, hcell _ (by omega)]; exact h1, by rw [show 0 + i * 3 + 2 = 0 + (i * 3 + 2) by omega, hcell _ (by omega)]; exact h2, b1, b2⟩
theorem IntsAt.far {w w' : World} {u : Value} {l : List Nat} {row : Option Nat} (h : IntsAt w u l) (hg : w.grownBy w' row) (hcl : ∀ g, row = some g → NoInts w g) : IntsAt w' u l := by
  rcases h with h | ⟨b, o, cap, hv, hle, h0, hc⟩
  · exact Or.inl h
  · refine Or.inr ⟨b, o, cap, hv, hle, h0, fun i hi => ?_⟩
    rw [hg.cell_far _ (cell_lt (hc i hi)) (fun e => hcl b e.symm _ _ (hc i hi))]
    exact hc i hi
theorem BigAt.far {w w' : World} {u : Value} {n : Nat} {row : Option Nat} (h : BigAt w u n) (hg : w.grownBy w' row) (hcl : ∀ g, row = some g → NoInts w g) : BigAt w' u n := by
  obtain ⟨l, h1, h2, h3, h4⟩ := h
  exact ⟨l, h1, h2, h3, h4.far hg hcl⟩
/-- One more. -/
theorem RtOwn.push {B : Nat} {w w' : World} {v v' : Value} {l : List (Nat × Nat)} {cs : List (Value × Value)} {u q : Value} {p : Nat × Nat} {g cap n : Nat} (h : RtOwn B w v l cs) (hu : BigAt w u p.1) (hq : BigAt w q p.2) (hn : l.length = n) (hv : v' = .slice (some ⟨g, 0, none⟩) (n + 1) cap)
    (hown : w'.ownsRow B 47 3 v' (n + 1) (rtL cs ++ [.bool false, u, q])) (hg : w.grownBy w' v.ownBlock) (hC : NoInts w' g) : RtOwn B w' v' (l ++ [p]) (cs ++ [(u, q)]) := by
  refine ⟨?_, fun g' hg' => ?_, by simp [h.len], fun i c p' hc hp => ?_⟩
  · rw [rtL_append, show rtL [(u, q)] = [.bool false, u, q] from rfl, List.length_append, hn]
    exact hown
  · rw [hv] at hg'
    obtain rfl : g = g' := by simpa [Value.ownBlock] using hg'
    exact hC
  · rcases Nat.lt_or_ge i l.length with h1 | h1
    · rw [List.getElem?_append_left (by rw [h.len]; exact h1)] at hc
      rw [List.getElem?_append_left h1] at hp
      obtain ⟨a1, a2⟩ := h.big i c p' hc hp
      exact ⟨a1.far hg h.clean, a2.far hg h.clean⟩
    · have hi : i = l.length := by
        have := (List.getElem?_eq_some_iff.mp hp).1
        simp at this
        omega
      subst hi
      rw [← h.len] at hc
      simp at hc hp
      subst hc hp
      exact ⟨hu.far hg h.clean, hq.far hg h.clean⟩
end Go.Proofs.YtnihclkaaglnjaaDoor
