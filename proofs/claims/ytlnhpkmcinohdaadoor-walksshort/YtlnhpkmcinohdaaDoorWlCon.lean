/- A network is joined when one vertex is left, if both ends of each wire become one. -/
import Derived.Test.YtlnhpkmcinohdaaDoorWlVal
namespace Go.Proofs.YtlnhpkmcinohdaaDoor
open Go.RowKit

/-- All vertices are joined to the first. -/
def Conn (N : Int) (l : List Wr) : Prop := ∀ S : Int → Prop, S 0 → (∀ x, x ∈ l → (S x.a ↔ S x.b)) → ∀ v, 0 ≤ v → v < N → S v
def InR (N : Int) (l : List Wr) : Prop := ∀ x, x ∈ l → 0 ≤ x.a ∧ x.a < N ∧ 0 ≤ x.b ∧ x.b < N ∧ x.a ≠ x.b
theorem shortL_in {lo hi : Int} : ∀ {l : List Wr} {x : Wr}, x ∈ l → numV lo hi x.a ≠ numV lo hi x.b → (⟨numV lo hi x.a, numV lo hi x.b, x.c⟩ : Wr) ∈ shortL lo hi l
  | y :: l, x, hx, h => by
    unfold shortL
    rcases List.mem_cons.1 hx with rfl | hx
    · rw [if_neg h]; simp
    · split
      · exact shortL_in hx h
      · exact List.mem_cons_of_mem _ (shortL_in hx h)
theorem numV_lt {N lo hi v : Int} (hv : 0 ≤ v ∧ v < N) (hl : 0 ≤ lo) (hlh : lo < hi) (hh : hi < N) : 0 ≤ numV lo hi v ∧ numV lo hi v < N - 1 := by
  unfold numV
  split
  · omega
  · split <;> omega
theorem stepL_in {N : Int} {x : Wr} {l : List Wr} (h : InR N (x :: l)) : InR (N - 1) (stepL (x :: l)) := by
  intro y hy
  obtain ⟨z, hz, e1, e2, _, h5⟩ := shortL_mem _ _ _ y hy
  have hx := h x (by simp)
  have hzz := h z hz
  have k1 := numV_lt (N := N) (lo := min x.a x.b) (hi := max x.a x.b) (v := z.a) ⟨hzz.1, hzz.2.1⟩ (by omega) (by omega) (by omega)
  have k2 := numV_lt (N := N) (lo := min x.a x.b) (hi := max x.a x.b) (v := z.b) ⟨hzz.2.2.1, hzz.2.2.2.1⟩ (by omega) (by omega) (by omega)
  rw [← e1] at k1
  rw [← e2] at k2
  exact ⟨k1.1, k1.2, k2.1, k2.2, h5⟩
theorem conn_step {N : Int} {x : Wr} {l : List Wr} (h : InR N (x :: l)) : Conn N (x :: l) ↔ Conn (N - 1) (stepL (x :: l)) := by
  have hx := h x (by simp)
  obtain ⟨lo, hlo⟩ : ∃ lo, lo = min x.a x.b := ⟨_, rfl⟩
  obtain ⟨hi, hhi⟩ : ∃ hi, hi = max x.a x.b := ⟨_, rfl⟩
  have hst : stepL (x :: l) = shortL lo hi (x :: l) := by rw [hlo, hhi]; rfl
  have h1 : 0 ≤ lo ∧ lo < hi ∧ hi < N := by omega
  rw [hst]
  constructor
  · intro hc S h0 hS v hv0 hvN
    have key := hc (fun u => S (numV lo hi u)) (by
      show S (numV lo hi 0)
      unfold numV
      rw [if_neg (by omega), if_neg (by omega)]; exact h0) (fun y hy => by
      show S (numV lo hi y.a) ↔ S (numV lo hi y.b)
      by_cases e : numV lo hi y.a = numV lo hi y.b
      · rw [e]
      · exact hS _ (shortL_in hy e))
    rcases Int.lt_or_le v hi with h2 | h2
    · have := key v hv0 (by omega)
      have e : numV lo hi v = v := by unfold numV; rw [if_neg (by omega), if_neg (by omega)]
      rw [e] at this
      exact this
    · have := key (v + 1) (by omega) (by omega)
      have e : numV lo hi (v + 1) = v := by unfold numV; rw [if_neg (by omega), if_pos (by omega)]; omega
      rw [e] at this
      exact this
  · intro hc S h0 hS v hv0 hvN
    have hlh : S lo ↔ S hi := by
      have h2 := hS x (by simp)
      rcases Int.lt_or_gt_of_ne hx.2.2.2.2 with h3 | h3
      · rw [show lo = x.a by omega, show hi = x.b by omega]; exact h2
      · rw [show lo = x.b by omega, show hi = x.a by omega]; exact h2.symm
    have back : ∀ u, S (if numV lo hi u < hi then numV lo hi u else numV lo hi u + 1) ↔ S u := fun u => by
      unfold numV
      by_cases e1 : u = hi
      · rw [if_pos e1, if_pos h1.2.1, e1]; exact hlh
      · rw [if_neg e1]
        by_cases e2 : hi < u
        · rw [if_pos e2, if_neg (by omega), show u - 1 + 1 = u by omega]
        · rw [if_neg e2, if_pos (by omega)]
    have key := hc (fun u => S (if u < hi then u else u + 1)) (by
      show S (if (0 : Int) < hi then 0 else 0 + 1)
      rw [if_pos (by omega)]; exact h0) (fun y hy => by
      obtain ⟨z, hz, e1, e2, _, _⟩ := shortL_mem _ _ _ y hy
      show S (if y.a < hi then y.a else y.a + 1) ↔ S (if y.b < hi then y.b else y.b + 1)
      rw [e1, e2, back, back]; exact hS z hz)
    have hv := numV_lt (N := N) (lo := lo) (hi := hi) (v := v) ⟨hv0, hvN⟩ h1.1 h1.2.1 h1.2.2
    exact (back v).1 (key _ hv.1 hv.2)
theorem conn_nil {N : Int} (h : 1 ≤ N) : Conn N [] ↔ N = 1 := by
  constructor
  · intro hc
    have := hc (fun v => v = 0) rfl (fun x hx => by cases hx) (N - 1) (by omega) (by omega)
    have e : N - 1 = 0 := this
    omega
  · rintro rfl S h0 _ v h1 h2
    obtain rfl : v = 0 := by omega
    exact h0
theorem conn_joinV : ∀ (n : Nat) (N : Int) (l : List Wr), l.length ≤ n → 1 ≤ N → InR N l → (joinV l.length N l = true ↔ Conn N l)
  | n, N, [], _, hN, _ => by rw [conn_nil hN, joinV_nil]; simp
  | 0, N, x :: l, h, _, _ => by simp at h
  | n + 1, N, x :: l, h, hN, hin => by
    have hx := hin x (by simp)
    have h3 := stepL_lt (x := x) (l := l) hx.2.2.2.2
    rw [joinV_cons (fun y hy => (hin y hy).2.2.2.2), conn_step hin]
    simp only [List.length_cons] at h
    exact conn_joinV n (N - 1) (stepL (x :: l)) (by omega) (by omega) (stepL_in hin)

/-- What has been reached from the first vertex. -/
structure ReaW (N : Nat) (L : List Wr) (l : List Nat) : Prop where
  zero : 0 ∈ l
  nd : l.Nodup
  lt : ∀ v, v ∈ l → v < N
  re : ∀ S : Int → Prop, S 0 → (∀ x, x ∈ L → (S x.a ↔ S x.b)) → ∀ v, v ∈ l → S (v : Int)
theorem ReaW.start {N : Nat} (h : 0 < N) (L : List Wr) : ReaW N L [0] :=
  ⟨by simp, by simp, fun v hv => by simp at hv; omega, fun S h0 _ v hv => by simp at hv; subst hv; exact h0⟩
theorem ReaW.push {N : Nat} {L : List Wr} {l : List Nat} (h : ReaW N L l) {x : Wr} (hx : x ∈ L) {u v : Nat} (hu : u ∈ l) (hv : v < N) (hnew : v ∉ l) (hw : (x.a = (u : Int) ∧ x.b = (v : Int)) ∨ (x.b = (u : Int) ∧ x.a = (v : Int))) : ReaW N L (l ++ [v]) := by
  refine ⟨by simp [h.zero], ?_, fun y hy => ?_, fun S h0 hS y hy => ?_⟩
  · rw [List.nodup_append]
    exact ⟨h.nd, by simp, fun a ha b hb => by simp at hb; subst hb; exact fun e => hnew (e ▸ ha)⟩
  · simp at hy
    rcases hy with hy | rfl
    · exact h.lt y hy
    · exact hv
  · simp at hy
    rcases hy with hy | rfl
    · exact h.re S h0 hS y hy
    · have h1 := h.re S h0 hS u hu
      have h2 := hS x hx
      rcases hw with ⟨e1, e2⟩ | ⟨e1, e2⟩
      · rw [e1, e2] at h2; exact h2.1 h1
      · rw [e1, e2] at h2; exact h2.2 h1
theorem nodup_len : ∀ (N : Nat) (l : List Nat), l.Nodup → (∀ v, v ∈ l → v < N) → l.length ≤ N
  | 0, l, _, h => by
    cases l with
    | nil => exact Nat.le_refl _
    | cons a l => exact absurd (h a (by simp)) (by omega)
  | N + 1, l, hn, h => by
    have h1 := nodup_len N (l.filter (fun v => v != N)) (hn.filter _) (fun v hv => by
      simp only [List.mem_filter, bne_iff_ne] at hv
      have := h v hv.1
      omega)
    have h2 : l.length ≤ (l.filter (fun v => v != N)).length + 1 := by
      clear h1 h
      induction l with
      | nil => simp
      | cons a l ih =>
        rw [List.nodup_cons] at hn
        by_cases e : a = N
        · subst e
          have h3 : l.filter (fun v => v != a) = l := List.filter_eq_self.2 (fun b hb => by simp; exact fun e => hn.1 (e ▸ hb))
          have h4 : (a :: l).filter (fun v => v != a) = l := by rw [List.filter_cons]; simp [h3]
          rw [h4]; simp
        · have h4 : (a :: l).filter (fun v => v != N) = a :: l.filter (fun v => v != N) := by rw [List.filter_cons]; simp [e]
          rw [h4]
          have := ih hn.2
          simp only [List.length_cons]; omega
    omega
theorem nodup_all {N : Nat} {l : List Nat} (hn : l.Nodup) (h : ∀ v, v ∈ l → v < N) (hl : l.length = N) : ∀ v, v < N → v ∈ l := by
  intro v hv
  by_cases hm : v ∈ l
  · exact hm
  · exfalso
    have h1 := nodup_len N (v :: l) (by rw [List.nodup_cons]; exact ⟨hm, hn⟩) (fun u hu => by
      rcases List.mem_cons.1 hu with rfl | hu
      · exact hv
      · exact h u hu)
    simp at h1; omega
theorem nodup_full {N : Nat} {l : List Nat} (hn : l.Nodup) (h : ∀ v, v ∈ l → v < N) (ha : ∀ v, v < N → v ∈ l) : l.length = N := by
  have h1 := nodup_len N l hn h
  rcases Nat.eq_or_lt_of_le h1 with h2 | h2
  · exact h2
  · exfalso
    have h3 : (List.range N).length ≤ l.length := by
      refine (List.nodup_range).length_le_of_subset ?_
      intro v hv
      exact ha v (List.mem_range.1 hv)
    rw [List.length_range] at h3
    omega
/-- Where nothing more is reached: all are joined just if as many are reached as there are. -/
theorem ReaW.fin {N : Nat} {L : List Wr} {l : List Nat} (h : ReaW N L l) (hN : 1 ≤ N) (hin : InR N L) (hc : ∀ x, x ∈ L → ∀ u, u ∈ l → (x.a = (u : Int) → x.b.toNat ∈ l) ∧ (x.b = (u : Int) → x.a.toNat ∈ l)) :
    joinV L.length N L = decide (l.length = N) := by
  have hj := conn_joinV L.length N L (Nat.le_refl _) (by omega) hin
  by_cases e : l.length = N
  · rw [decide_eq_true e, hj]
    intro S h0 hS v h1 h2
    have := h.re S h0 hS v.toNat (nodup_all h.nd h.lt e v.toNat (by omega))
    rw [show ((v.toNat : Nat) : Int) = v by omega] at this
    exact this
  · rw [decide_eq_false e]
    cases hjj : joinV L.length N L with
    | false => rfl
    | true =>
      exfalso
      have hconn := hj.1 hjj
      refine e (nodup_full h.nd h.lt (fun v hv => ?_))
      have := hconn (fun u => u.toNat ∈ l) h.zero (fun x hx => by
        have hx2 := hin x hx
        constructor
        · intro hu
          exact (hc x hx x.a.toNat hu).1 (by omega)
        · intro hu
          exact (hc x hx x.b.toNat hu).2 (by omega)) (v : Int) (by omega) (by omega)
      simpa using this
end Go.Proofs.YtlnhpkmcinohdaaDoor
