/- Numbers without a bound in a list, as it grows. -/
import Derived.Test.YtobmngkaoahmiaaDoorWords
import Derived.Test.YtobmngkaoahmiaaDoorTabCopy
import Derived.Test.YtobmngkaoahmiaaDoorGrid
import Derived.Deep.AppendLies
namespace Go.Proofs.YtobmngkaoahmiaaDoor
open Go.RowKit

def AllP (p : Value → Prop) (w : World) (g : Nat) : Prop := ∀ j x, w.cell? ⟨g, j, none⟩ = some x → p x
theorem AllP.later {p : Value → Prop} {w w' : World} {g : Nat} (h : AllP p w g) (hg : g < w.heap.size) (hb : Below w.heap.size w w') : AllP p w' g := fun j x hx => h j x (by rw [← hb.cell (p := ⟨g, j, none⟩) hg]; exact hx)
def notU (v : Value) : Prop := ∀ x, v ≠ .int .u64 x
/-- Where all cells of a block are of one kind. -/
theorem allP_of_block {p : Value → Prop} {w : World} {g : Nat} {cs : Array Value} {t : TypeId} {q : Nat × Nat} (hg : w.heap[g]? = some (.cells cs t q)) (h : ∀ u, u ∈ cs.toList → p u) : AllP p w g := fun j x e => by
  have e2 : cs[j]? = some x := by simpa [World.cell?, hg] using e
  exact h _ (Array.mem_toList_iff.mpr (Array.mem_of_getElem? e2))
theorem zero_allP {p : Value → Prop} {z : Value} (hz : ∀ u, u ∈ z.cells.toList → p u) (k : Nat) : ∀ u, u ∈ (Builtin.zeroCells z.cells k).toList → p u := fun u hu => by
  obtain ⟨j, hj⟩ := List.getElem?_of_mem hu
  simp only [Builtin.zeroCells, Array.getElem?_toList] at hj
  have hu2 := Array.mem_of_getElem? hj
  simp only [Array.mem_map] at hu2
  obtain ⟨i, hi, rfl⟩ := hu2
  refine hz _ ?_
  have hlt : i < k * z.cells.size := by simpa using hi
  have hs : 0 < z.cells.size := by
    rcases Nat.eq_zero_or_pos z.cells.size with h | h
    · rw [h, Nat.mul_zero] at hlt; omega
    · exact h
  have hm := Nat.mod_lt i hs
  rw [getElem!_pos z.cells _ hm]
  exact Array.mem_toList_iff.mpr (Array.getElem_mem hm)
theorem row_allP {p : Value → Prop} {w : World} {base : Nat} {e : TypeId} {size : Nat} {n cap g : Nat} {xs : List Value} (h : w.ownsRow base e size (.slice (some ⟨g, 0, none⟩) n cap) n xs) (hcl : AllP p w g) : ∀ u, u ∈ xs → p u := fun u hu => by
  obtain ⟨j, hj⟩ := List.getElem?_of_mem hu
  have hc := h.cells (g := g) rfl j u hj
  rw [add_plain, Nat.zero_add] at hc
  exact hcl j u hc
/-- An append onto a block of one kind leaves one. -/
theorem append_allP {p : Value → Prop} {P : Program} (w : World) {t ty : TypeId} {base : Nat} {e : TypeId} {i : TypeInfo} {z : Value} {size bytes : Nat} (ht : P.underlying t = some (.slice e)) (hi : P.info? e = some i) (hz : i.zero = some z)
    (hsize : i.size = size) (hby : i.bytes = bytes) {v : Value} {n : Nat} {xs : List Value} (hown : w.ownsRow base e size v n xs)
    {ad : Addr} {m c : Nat} {news : List Value} (hl : news.length = m * size) (hnews : ∀ j u, news[j]? = some u → w.cell? (ad.add j) = some u) (h1 : ∀ u ∈ news, u.oneCell' = true)
    (hm : 0 < m) (h63 : n + m ≤ maxLen) (hbytes : (n + m) * bytes ≤ 140737488355328) (hz0 : ∀ u, u ∈ z.cells.toList → p u) (hnw : ∀ u, u ∈ news → p u) (hcl : ∀ g, v.ownBlock = some g → AllP p w g)
    {g cap : Nat} {w' : World} (hr : (Builtin.append_ #[t, t] ty #[v, .slice (some ad) m c]).run P w = .ok (.slice (some ⟨g, 0, none⟩) (n + m) cap) w') : AllP p w' g := by
  subst hsize
  subst hby
  unfold maxLen at h63
  have hnew : ∀ (cs : Array Value), (∀ u, u ∈ cs.toList → p u) → AllP p (w.drew.alloc (.cells cs e)) w.heap.size := fun cs hcs => allP_of_block (heap_alloc_new w.drew _) hcs
  rcases hown.2 with ⟨rfl, rfl⟩ | ⟨g0, cap0, cur, rfl, hbg, hg, hnc, hcm, hcs, htake⟩
  · have hr2 := run_append_nil (P := P) w t ty e i z ht hi hz ad m c news hl hnews hm (by omega) (by rw [Nat.zero_add] at hbytes; omega)
    rw [hr] at hr2
    simp only [Result.ok.injEq, Value.slice.injEq, Option.some.injEq, Addr.mk.injEq, and_true] at hr2
    obtain ⟨⟨rfl, _⟩, rfl⟩ := hr2
    refine hnew _ fun u hu => ?_
    rw [Array.toList_append] at hu
    rcases List.mem_append.mp hu with h | h
    · exact hnw u (by simpa using h)
    · exact zero_allP hz0 _ u h
  · have hc0 := hcl g0 rfl
    by_cases hroom : n + m ≤ cap0
    · have hfit : n * i.size + news.length ≤ cur.size := by rw [hl, hcs, ← Nat.add_mul]; exact Nat.mul_le_mul_right _ hroom
      have hr2 := run_append_room (P := P) w t ty e i ht hi g0 n cap0 cur hg ad m c news hl hnews h1 hroom hfit
      rw [hr] at hr2
      simp only [Result.ok.injEq, Value.slice.injEq, Option.some.injEq, Addr.mk.injEq, and_true, true_and] at hr2
      obtain ⟨⟨rfl, _⟩, rfl⟩ := hr2
      have hcur : ∀ u, u ∈ cur.toList → p u := fun u hu => by
        obtain ⟨j, hj⟩ := List.getElem?_of_mem hu
        refine hc0 j u ?_
        rw [Array.getElem?_toList] at hj
        simp [World.cell?, hg, hj]
      refine allP_of_block (setRow_heap w g cur _ e _ hg) fun u hu => ?_
      simp only [List.append_assoc, List.mem_append] at hu
      rcases hu with h | h | h
      · exact hcur u (List.mem_of_mem_take h)
      · exact hnw u h
      · exact hcur u (List.mem_of_mem_drop h)
    · have hr2 := run_append_grow (P := P) w t ty e i z ht hi hz ⟨g0, 0, none⟩ n cap0 xs hown.1 (hown.cells (g := g0) rfl) ad m c news hl hnews (by omega) (by omega) (growslice_fits (by omega) hbytes)
      rw [hr] at hr2
      simp only [Result.ok.injEq, Value.slice.injEq, Option.some.injEq, Addr.mk.injEq, and_true, true_and] at hr2
      obtain ⟨⟨rfl, _⟩, rfl⟩ := hr2
      refine hnew _ fun u hu => ?_
      simp only [Array.toList_append, List.append_assoc, List.mem_append] at hu
      rcases hu with h | h | h
      · exact row_allP hown hc0 u h
      · exact hnw u h
      · exact zero_allP hz0 _ u h
/-- The same at a step of a region that draws its order. -/
theorem step_append_allP {p : Value → Prop} {P : Program} (w : World) {ops : Array Oper} {o : Oper} {a : Act} {K : Act → World → Prop} {Q : Exit → Act → World → Prop} {E : Prop} (hgd : o.guard = none) (s x : Operand) (t : TypeId)
    (ho : o.op = .call { callee := .builtin .append, args := #[s, x], argTypes := #[t, t] })
    (base : Nat) (e : TypeId) (i : TypeInfo) (z : Value) (size bytes : Nat) (ht : P.underlying t = some (.slice e)) (hI : P.info? e = some i ∧ i.zero = some z ∧ i.size = size ∧ i.bytes = bytes) (hzs : z.cells.size = size) (hsz : 0 < size)
    (v : Value) (n : Nat) (xs : List Value) (hs : a.eval s = v) (hown : w.ownsRow base e size v n xs)
    (ad : Addr) (m c : Nat) (news : List Value) (hx : a.eval x = .slice (some ad) m c) (hl : news.length = m * size) (hnews : ∀ j u, news[j]? = some u → w.cell? (ad.add j) = some u) (h1 : ∀ u ∈ news, u.oneCell' = true)
    (hm : 0 < m) (hN : n + m ≤ 100000) (hB : bytes ≤ 1000) (hbase : base ≤ w.heap.size) (hz0 : ∀ u, u ∈ z.cells.toList → p u) (hnw : ∀ u, u ∈ news → p u) (hcl : ∀ g, v.ownBlock = some g → AllP p w g)
    (h : ∀ g cap w', w'.ownsRow base e size (.slice (some ⟨g, 0, none⟩) (n + m) cap) (n + m) (xs ++ news) → w.grownBy w' v.ownBlock → AllP p w' g → K (a.put o.dst (.slice (some ⟨g, 0, none⟩) (n + m) cap)) w') :
    if Region.wanted o (yielded ops a.tmps) = true then Oper.wp P o a w K Q else E := by
  obtain ⟨hi, hz, hsize, hby⟩ := hI
  have h63 : n + m ≤ maxLen := by unfold maxLen; omega
  have hbytes : (n + m) * bytes ≤ 140737488355328 := Nat.le_trans (Nat.mul_le_mul hN hB) (by decide)
  obtain ⟨g, cap, w', hr, h2, h3, _, _⟩ := run_append_lies (P := P) w t o.type base e i z size bytes ht hi hz hsize hby hzs hsz v n xs hown ad m c news hl hnews h1 hm h63 hbytes hbase _ rfl
  have hC := append_allP w ht hi hz hsize hby hown hl hnews h1 hm h63 hbytes hz0 hnw hcl hr
  have hw : Region.wanted o (yielded ops a.tmps) = true := by simp [Region.wanted, hgd]
  rw [if_pos hw]
  unfold Oper.wp
  simp [execOp, ho, resolve, invoke, builtin, hs, hx, hr, Result.andThen]
  exact h g cap w' h2 h3 hC

theorem WordsAt.kept {w w' : World} {u : Value} {l : List Nat} (h : WordsAt w u l) (hk : ∀ q x, w.cell? q = some (.int .u64 x) → w'.cell? q = some (.int .u64 x)) : WordsAt w' u l := by
  rcases h with h | ⟨b, o, cap, hv, hle, h0, hc⟩
  · exact Or.inl h
  · exact Or.inr ⟨b, o, cap, hv, hle, h0, fun i hi => hk _ _ (hc i hi)⟩
/-- A number is as it was where no word is turned. -/
theorem NatAt.kept {w w' : World} {u : Value} {n : Nat} (h : NatAt w u n) (hk : ∀ q x, w.cell? q = some (.int .u64 x) → w'.cell? q = some (.int .u64 x)) : NatAt w' u n := by
  obtain ⟨l, h1, h2, h3, h4⟩ := h
  exact ⟨l, h1, h2, h3, h4.kept hk⟩
theorem kept_grown {w w' : World} {row : Option Nat} (hg : w.grownBy w' row) (hcl : ∀ g, row = some g → AllP notU w g) : ∀ q x, w.cell? q = some (.int .u64 x) → w'.cell? q = some (.int .u64 x) := fun q x hx => by
  rw [hg.cell_far _ (cell_lt hx) (fun e => ?_)]
  · exact hx
  · obtain ⟨b, o, pth⟩ := q
    cases pth with
    | none => exact hcl b e.symm o _ hx x rfl
    | some y =>
      exfalso
      simp only [World.cell?] at hx
      split at hx <;> simp at hx
theorem kept_put {w : World} {p : Addr} {y z : Value} (hp : w.cell? p = some z) (hz : notU z) : ∀ q x, w.cell? q = some (.int .u64 x) → (w.setCell p y).cell? q = some (.int .u64 x) := fun q x hx => by
  rw [put_cell _ hp, if_neg]
  · exact hx
  · rintro rfl
    rw [hp] at hx
    exact hz x (by simpa using hx)
/-- Numbers in a block between two places. -/
def NatsW (lo hi : Nat) (w : World) (v : Value) (n : Nat) (V : Nat → Nat) : Prop := ∃ (b cap : Nat) (u : Nat → Value), v = .slice (some ⟨b, 0, none⟩) n cap ∧ lo ≤ b ∧ b < hi ∧ ∀ k, k < n → w.cell? ⟨b, k, none⟩ = some (u k) ∧ NatAt w (u k) (V k)
theorem NatsW.kept {lo hi : Nat} {w w' : World} {v : Value} {n : Nat} {V : Nat → Nat} (h : NatsW lo hi w v n V) (hk : ∀ q x, w.cell? q = some (.int .u64 x) → w'.cell? q = some (.int .u64 x)) (hc : ∀ b k x, lo ≤ b → b < hi → w.cell? ⟨b, k, none⟩ = some x → w'.cell? ⟨b, k, none⟩ = some x) : NatsW lo hi w' v n V := by
  obtain ⟨b, cap, u, hv, h1, h2, hr⟩ := h
  exact ⟨b, cap, u, hv, h1, h2, fun k hk2 => ⟨hc b k _ h1 h2 (hr k hk2).1, (hr k hk2).2.kept hk⟩⟩
theorem NatsW.later {lo hi : Nat} {w w' : World} {v : Value} {n : Nat} {V : Nat → Nat} (h : NatsW lo hi w v n V) (hb : Below w.heap.size w w') : NatsW lo hi w' v n V :=
  h.kept (fun q x hx => by rw [hb.cell (cell_lt hx)]; exact hx) (fun b k x _ _ hx => by rw [hb.cell (cell_lt hx)]; exact hx)
theorem NatsW.wide {lo hi hi2 : Nat} {w : World} {v : Value} {n : Nat} {V : Nat → Nat} (h : NatsW lo hi w v n V) (hh : hi ≤ hi2) : NatsW lo hi2 w v n V := by
  obtain ⟨b, cap, u, hv, h1, h2, hr⟩ := h
  exact ⟨b, cap, u, hv, h1, by omega, hr⟩
theorem own_set {w : World} {base : Nat} {t : TypeId} {sz : Nat} {v : Value} {n : Nat} {xs : List Value} (h : w.ownsRow base t sz v n xs) (a : Addr) (x : Value) (hne : v.ownBlock ≠ some a.block) : (w.setCell a x).ownsRow base t sz v n xs := by
  refine ⟨h.1, ?_⟩
  rcases h.2 with hn | ⟨g, cap, cur, hv, hg, hh, rest⟩
  · exact Or.inl hn
  · refine Or.inr ⟨g, cap, cur, hv, hg, ?_, rest⟩
    rw [Below.heap_setCell _ _ _ _ (fun e => hne (by rw [hv, ← e]; rfl))]
    exact hh
end Go.Proofs.YtobmngkaoahmiaaDoor
