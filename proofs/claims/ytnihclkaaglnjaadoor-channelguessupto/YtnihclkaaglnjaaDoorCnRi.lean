/- A list of numbers that grows beside numbers of any size: behind its end its block is nothing but 0, and no number's last digit is 0: so what is appended turns no digit. -/
import Derived.Test.YtnihclkaaglnjaaDoorCnRt
namespace Go.Proofs.YtnihclkaaglnjaaDoor
open Go.RowKit

def Spare0 (w : World) (v : Value) (n : Nat) : Prop := ∀ g, v.ownBlock = some g → ∀ j x, n ≤ j → w.cell? ⟨g, j, none⟩ = some x → x = .int .i64 0
theorem spare0_nil (w : World) : Spare0 w (.slice none 0 0) 0 := fun g hg => by cases hg
theorem Spare0.later {w w' : World} {v : Value} {n : Nat} (h : Spare0 w v n) (hl : ∀ g, v.ownBlock = some g → g < w.heap.size) (hb : Below w.heap.size w w') : Spare0 w' v n := fun g hg j x hj hx => by
  rw [hb.cell (p := ⟨g, j, none⟩) (hl g hg)] at hx
  exact h g hg j x hj hx
theorem spare_of_block {w : World} {g n cap : Nat} {cs : Array Value} {t : TypeId} {q : Nat × Nat} (hg : w.heap[g]? = some (.cells cs t q)) (h : ∀ j x, n ≤ j → cs[j]? = some x → x = .int .i64 0) : Spare0 w (.slice (some ⟨g, 0, none⟩) n cap) n := fun g' hg' j x hj hx => by
  obtain rfl : g = g' := by simpa [Value.ownBlock] using hg'
  exact h j x hj (by simpa [World.cell?, hg] using hx)
theorem zero_cell {z : Value} (hz : z.cells = #[.int .i64 0]) (k j : Nat) (x : Value) (h : (Builtin.zeroCells z.cells k)[j]? = some x) : x = .int .i64 0 := by
  have hu := Array.mem_of_getElem? h
  simp only [Builtin.zeroCells, Array.mem_map] at hu
  obtain ⟨i, _, rfl⟩ := hu
  rw [hz]
  have : i % (#[Value.int .i64 0] : Array Value).size = 0 := Nat.mod_one i
  rw [this]
  rfl
/-- A number whose last digit is not 0 lies ahead of the end. -/
theorem BigAt.before {w : World} {u : Value} {N g n : Nat} {v : Value} (h : BigAt w u N) (hv : v.ownBlock = some g) (hsp : Spare0 w v n) : ∃ l, Dig l ∧ NoTail l ∧ bv l = N ∧ ((∃ ad cap, u = .slice ad 0 cap ∧ l = []) ∨ ∃ b o cap, u = .slice (some ⟨b, o, none⟩) l.length cap ∧ l.length ≤ cap ∧ 0 < l.length ∧ (∀ i, i < l.length → w.cell? ⟨b, o + i, none⟩ = some (.int .i64 ((l.getD i 0 : Nat) : Int))) ∧ (b = g → o + l.length ≤ n)) := by
  obtain ⟨l, h1, h2, h3, h4⟩ := h
  refine ⟨l, h1, h2, h3, ?_⟩
  rcases h4 with h4 | ⟨b, o, cap, e, h5, h6, h7⟩
  · exact Or.inl h4
  · refine Or.inr ⟨b, o, cap, e, h5, h6, h7, fun eb => ?_⟩
    subst eb
    rcases Nat.lt_or_ge n (o + l.length) with h8 | h8
    · exfalso
      have ht := h7 (l.length - 1) (by omega)
      have h0 := hsp b hv (o + (l.length - 1)) _ (by omega) ht
      have hne := h2 (l.length - 1) (by omega)
      simp only [Value.int.injEq, true_and] at h0
      omega
    · exact h8
theorem append_spare {P : Program} (w : World) {t ty : TypeId} {base : Nat} {e : TypeId} {i : TypeInfo} {z : Value} {bytes : Nat} (ht : P.underlying t = some (.slice e)) (hi : P.info? e = some i) (hz : i.zero = some z)
    (hsize : i.size = 1) (hby : i.bytes = bytes) (hz0 : z.cells = #[.int .i64 0]) {v : Value} {n : Nat} {xs : List Value} (hown : w.ownsRow base e 1 v n xs)
    {ad : Addr} {m c : Nat} {news : List Value} (hl : news.length = m * 1) (hnews : ∀ j u, news[j]? = some u → w.cell? (ad.add j) = some u) (h1 : ∀ u ∈ news, u.oneCell' = true)
    (hm : 0 < m) (h63 : n + m ≤ maxLen) (hbytes : (n + m) * bytes ≤ 140737488355328) (hsp : Spare0 w v n)
    {g cap : Nat} {w' : World} (hr : (Builtin.append_ #[t, t] ty #[v, .slice (some ad) m c]).run P w = .ok (.slice (some ⟨g, 0, none⟩) (n + m) cap) w') : Spare0 w' (.slice (some ⟨g, 0, none⟩) (n + m) cap) (n + m) ∧ ∀ u N, BigAt w u N → BigAt w' u N := by
  subst hby
  unfold maxLen at h63
  have hl1 : news.length = m := by omega
  have hal : ∀ (X : Obj), Below w.heap.size w (w.drew.alloc X) := fun X => (Below.refl _ _).drew.alloc (Nat.le_refl _) _
  rcases hown.2 with ⟨rfl, rfl⟩ | ⟨g0, cap0, cur, rfl, hbg, hg, hnc, hcm, hcs, htake⟩
  · have hr2 := run_append_nil (P := P) w t ty e i z ht hi hz ad m c news (by rw [hsize]; exact hl) hnews hm (by omega) (by rw [Nat.zero_add] at hbytes; omega)
    rw [hr] at hr2
    simp only [Result.ok.injEq, Value.slice.injEq, Option.some.injEq, Addr.mk.injEq, and_true] at hr2
    obtain ⟨⟨rfl, _⟩, rfl⟩ := hr2
    refine ⟨spare_of_block (heap_alloc_new w.drew _) fun j x hj hx => ?_, fun u N hu => hu.later (hal _)⟩
    rw [Array.getElem?_append_right (by simp; omega)] at hx
    exact zero_cell hz0 _ _ _ hx
  · by_cases hroom : n + m ≤ cap0
    · have hfit : n * i.size + news.length ≤ cur.size := by rw [hsize, hl1, hcs]; omega
      have hr2 := run_append_room (P := P) w t ty e i ht hi g0 n cap0 cur hg ad m c news (by rw [hsize]; exact hl) hnews h1 hroom hfit
      rw [hr, hsize, Nat.mul_one, hl1] at hr2
      rw [hsize, Nat.mul_one, hl1] at hfit
      simp only [Result.ok.injEq, Value.slice.injEq, Option.some.injEq, Addr.mk.injEq, and_true, true_and] at hr2
      obtain ⟨⟨rfl, _⟩, rfl⟩ := hr2
      have hcell : ∀ j, w.cell? ⟨g, j, none⟩ = cur[j]? := fun j => by simp [World.cell?, hg]
      have hlt : (cur.toList.take n).length = n := by simp; omega
      refine ⟨spare_of_block (setRow_heap w g cur _ e _ hg) fun j x hj hx => ?_, fun u N hu => ?_⟩
      · simp only [List.append_assoc, List.getElem?_toArray] at hx
        rw [List.getElem?_append_right (by rw [hlt]; omega), hlt, List.getElem?_append_right (by omega), hl1, List.getElem?_drop, Array.getElem?_toList] at hx
        refine hsp g rfl j x (by omega) ?_
        rw [hcell, ← hx]
        congr 1
        omega
      · obtain ⟨l, a1, a2, a3, a4⟩ := hu.before (v := .slice (some ⟨g, 0, none⟩) n cap0) rfl hsp
        refine ⟨l, a1, a2, a3, ?_⟩
        rcases a4 with a4 | ⟨b, o, cp, e1, a5, a6, a7, a8⟩
        · exact Or.inl a4
        · refine Or.inr ⟨b, o, cp, e1, a5, a6, fun k hk => ?_⟩
          by_cases hb : b = g
          · have hle := a8 hb
            subst hb
            rw [← a7 k hk, hcell]
            simp only [World.cell?, setRow_heap w b cur _ e _ hg, Option.isSome_none, Bool.false_eq_true, if_false, List.append_assoc, List.getElem?_toArray]
            rw [List.getElem?_append_left (by rw [hlt]; omega), List.getElem?_take_of_lt (by omega), Array.getElem?_toList]
          · have := a7 k hk
            simp only [World.cell?, setRow_other w g b _ hb] at this ⊢
            exact this
    · have hr2 := run_append_grow (P := P) w t ty e i z ht hi hz ⟨g0, 0, none⟩ n cap0 xs (by rw [hsize]; exact hown.1) (hown.cells (g := g0) rfl) ad m c news (by rw [hsize]; exact hl) hnews (by omega) (by omega) (growslice_fits (by omega) hbytes)
      rw [hr] at hr2
      simp only [Result.ok.injEq, Value.slice.injEq, Option.some.injEq, Addr.mk.injEq, and_true, true_and] at hr2
      obtain ⟨⟨rfl, _⟩, rfl⟩ := hr2
      have hxl : xs.length = n := by have := hown.1; omega
      refine ⟨spare_of_block (heap_alloc_new w.drew _) fun j x hj hx => ?_, fun u N hu => hu.later (hal _)⟩
      rw [Array.getElem?_append_right (by simp; omega)] at hx
      exact zero_cell hz0 _ _ _ hx
/-- The same at the list of a plain region's operations. -/
theorem wpList_append_spare {P : Program} (w : World) {ops : Array Oper} {rest : List Oper} {o : Oper} {a : Act} {Q : Exit → Act → World → Prop} (hgd : o.guard = none) (s x : Operand) (t : TypeId)
    (ho : o.op = .call { callee := .builtin .append, args := #[s, x], argTypes := #[t, t] })
    (base : Nat) (e : TypeId) (i : TypeInfo) (z : Value) (bytes : Nat) (ht : P.underlying t = some (.slice e)) (hI : P.info? e = some i ∧ i.zero = some z ∧ i.size = 1 ∧ i.bytes = bytes) (hz0 : z.cells = #[.int .i64 0])
    (v : Value) (n : Nat) (xs : List Value) (hs : a.eval s = v) (hown : w.ownsRow base e 1 v n xs)
    (ad : Addr) (m c : Nat) (news : List Value) (hx : a.eval x = .slice (some ad) m c) (hl : news.length = m * 1) (hnews : ∀ j u, news[j]? = some u → w.cell? (ad.add j) = some u) (h1 : ∀ u ∈ news, u.oneCell' = true)
    (hm : 0 < m) (hN : n + m ≤ 100000) (hB : bytes ≤ 1000) (hbase : base ≤ w.heap.size) (hsp : Spare0 w v n)
    (h : ∀ g cap w', w'.ownsRow base e 1 (.slice (some ⟨g, 0, none⟩) (n + m) cap) (n + m) (xs ++ news) → w.grownBy w' v.ownBlock → Spare0 w' (.slice (some ⟨g, 0, none⟩) (n + m) cap) (n + m) → (∀ u N, BigAt w u N → BigAt w' u N) → wpList P ops Q rest (a.put o.dst (.slice (some ⟨g, 0, none⟩) (n + m) cap)) w') :
    wpList P ops Q (o :: rest) a w := by
  obtain ⟨hi, hz, hsize, hby⟩ := hI
  have h63 : n + m ≤ maxLen := by unfold maxLen; omega
  have hbytes : (n + m) * bytes ≤ 140737488355328 := Nat.le_trans (Nat.mul_le_mul hN hB) (by decide)
  obtain ⟨g, cap, w', hr, h2, h3, _, _⟩ := run_append_lies (P := P) w t o.type base e i z 1 bytes ht hi hz hsize hby (by rw [hz0]; rfl) (by omega) v n xs hown ad m c news hl hnews h1 hm h63 hbytes hbase _ rfl
  obtain ⟨hC, hK⟩ := append_spare w ht hi hz hsize hby hz0 hown hl hnews h1 hm h63 hbytes hsp hr
  refine wpList_plain hgd fun K hKK => ?_
  unfold Oper.wp
  simp [execOp, ho, resolve, invoke, builtin, hs, hx, hr, Result.andThen]
  exact hKK _ _ (h g cap w' h2 h3 hC hK)
end Go.Proofs.YtnihclkaaglnjaaDoor
