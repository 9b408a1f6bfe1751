/- walks.voltages: over one number. -/
import Derived.Test.YtlnhpkmcinohdaaDoorPackB
import Derived.Test.YtlnhpkmcinohdaaDoorPackC
import Derived.Test.YtlnhpkmcinohdaaDoorWeights
import Derived.Test.YtlnhpkmcinohdaaDoorCode
import Derived.Test.YtlnhpkmcinohdaaDoorNatTold
import Derived.Test.YtlnhpkmcinohdaaDoorLastOp
import Derived.Test.YtlnhpkmcinohdaaDoorWlSh
import Derived.Laws.StructEq
namespace Go.Proofs.YtlnhpkmcinohdaaDoor
open Go.RowKit

/-- The vertices in the order in which they are taken: the two, then the others. -/
def vL (f t k : Nat) : List Nat := t :: f :: (List.range k).filter (fun v => v != f && v != t)
theorem vL_yes {f t k : Nat} (h : k ≠ f ∧ k ≠ t) : vL f t (k + 1) = vL f t k ++ [k] := by
  unfold vL
  rw [List.range_succ, List.filter_append]
  simp [h.1, h.2]
theorem vL_no {f t k : Nat} (h : k = f ∨ k = t) : vL f t (k + 1) = vL f t k := by
  unfold vL
  rw [List.range_succ, List.filter_append]
  rcases h with h | h <;> simp [h]
theorem vL_len {f t : Nat} (h : f ≠ t) : ∀ k, (vL f t k).length + (if f < k then 1 else 0) + (if t < k then 1 else 0) = k + 2
  | 0 => by simp [vL]
  | k + 1 => by
    have ih := vL_len h k
    by_cases h1 : k ≠ f ∧ k ≠ t
    · rw [vL_yes h1, List.length_append]
      simp only [List.length_cons, List.length_nil]
      split at ih <;> split at ih <;> split <;> split <;> omega
    · rw [vL_no (by omega)]
      split at ih <;> split at ih <;> split <;> split <;> omega
theorem vL_full {f t N : Nat} (h : f ≠ t) (hf : f < N) (ht : t < N) : (vL f t N).length = N := by
  have := vL_len h N
  rw [if_pos hf, if_pos ht] at this
  omega
theorem vL_lt {f t N : Nat} (hf : f < N) (ht : t < N) : ∀ x, x ∈ vL f t N → x < N := by
  intro x hx
  simp only [vL, List.mem_cons, List.mem_filter, List.mem_range] at hx
  rcases hx with rfl | rfl | ⟨h, _⟩
  · exact ht
  · exact hf
  · exact h
theorem takeV_row {n s : Nat} {V : Nat → Nat → Nat} {t k : Nat} (hst : s ≤ t) (htn : t < n) : takeV n s V t k = V t k := by
  unfold takeV takeTo
  rw [if_neg (by omega), if_neg (by omega), if_neg (by omega)]
theorem takeV_out {n s : Nat} {V : Nat → Nat → Nat} {t : Nat} (hst : s < t) : takeV n s V (n + 1) t = V (n + 1) t := by
  unfold takeV takeTo
  rw [if_neg (by omega)]
  split
  · omega
  · rw [if_neg (by omega)]
theorem takeV_own {n s : Nat} {V : Nat → Nat → Nat} : takeV n s V (n + 1) s = sumTo (V s) s := by unfold takeV; rw [if_pos ⟨rfl, rfl⟩]
theorem sumTo_congr {a b : Nat → Nat} : ∀ {n : Nat}, (∀ i, i < n → a i = b i) → sumTo a n = sumTo b n
  | 0, _ => rfl
  | n + 1, h => by show sumTo a n + a n = sumTo b n + b n; rw [sumTo_congr (fun i hi => h i (by omega)), h n (by omega)]
/-- What goes out of a state that is taken out is what its row holds then. -/
theorem downTo_out {n : Nat} {V : Nat → Nat → Nat} : ∀ c s, s + c ≤ n → ∀ t, s ≤ t → t < s + c → downTo n V c s (n + 1) t = sumTo (downTo n V c s t) t
  | 0, s, _, t, h1, h2 => by omega
  | c + 1, s, h, t, h1, h2 => by
    show takeV n s (downTo n V c (s + 1)) (n + 1) t = sumTo (takeV n s (downTo n V c (s + 1)) t) t
    rw [sumTo_congr (b := downTo n V c (s + 1) t) (fun k _ => takeV_row h1 (by omega))]
    rcases Nat.lt_or_ge s t with h3 | h3
    · rw [takeV_out h3]; exact downTo_out c (s + 1) (by omega) t (by omega) (by omega)
    · obtain rfl : s = t := by omega
      exact takeV_own
theorem sumTo_mul_le {z : Nat → Nat} {D : Nat} {V : Nat → Nat} : ∀ {n : Nat}, (∀ i, i < n → z i ≤ D) → sumTo (fun k => z k * V k) n ≤ D * sumTo V n
  | 0, _ => Nat.zero_le _
  | n + 1, h => by
    show sumTo _ n + z n * V n ≤ D * (sumTo V n + V n)
    have h1 := sumTo_mul_le (z := z) (V := V) (n := n) (fun i hi => h i (by omega))
    have h2 := Nat.mul_le_mul_right (V n) (h n (by omega))
    rw [Nat.mul_add]; omega
/-- No chance is above 1. -/
theorem now_le {n m : Nat} {V : Nat → Nat → Nat} {z0 : Nat → Nat} (hz : ∀ i, z0 i ≤ 1) (hV : ∀ s, m ≤ s → s < n → V (n + 1) s = sumTo (V s) s) : ∀ c, m + c ≤ n → ∀ i, i < m + c → nowV n V m z0 c i ≤ denV n V m c
  | 0, _, i, _ => hz i
  | c + 1, h, i, hi => by
    have ih := now_le (z0 := z0) hz hV c (by omega)
    show (if i < m + c then _ else _) ≤ denV n V m c * V (n + 1) (m + c)
    split
    · rename_i h1
      exact Nat.mul_le_mul_right _ (ih i h1)
    · rw [hV (m + c) (by omega) (by omega)]
      exact sumTo_mul_le (fun k hk => ih k hk)
theorem inV_le {l : List Nat} {z : Nat → Nat} {D : Nat} : ∀ {c : Nat}, (∀ i, i < c → z i ≤ D) → ∀ s, inV l z c s ≤ D
  | 0, _, s => Nat.zero_le _
  | c + 1, h, s => by
    show (if _ then _ else _) ≤ D
    split
    · exact h c (by omega)
    · exact inV_le (fun i hi => h i (by omega)) s
/-- The chain of a network when all but two vertices are taken out, one by one. -/
def wV (N : Nat) (L : List Wr) (f t : Nat) : Nat → Nat → Nat := downTo N (fold0 (vL f t N) (wtF L) N N) (N - 1) 1
def volD (N : Nat) (L : List Wr) (f t : Nat) : Nat := denV N (wV N L f t) 2 (N - 2)
def volN (N : Nat) (L : List Wr) (f t : Nat) : Nat → Nat := inV (vL f t N) (nowV N (wV N L f t) 2 zA (N - 2)) N
theorem vol_le {N : Nat} {L : List Wr} {f t : Nat} (h2 : 2 ≤ N) (s : Nat) : volN N L f t s ≤ volD N L f t :=
  inV_le (fun i hi => now_le (n := N) (m := 2) (fun i => by unfold zA; split <;> decide) (fun s h1 h3 => downTo_out (N - 1) 1 (by omega) s (by omega) (by omega)) (N - 2) (by omega) i (by omega)) s
theorem volD_lt {N : Nat} {L : List Wr} {f t : Nat} (hN : N ≤ 8) (h2 : 2 ≤ N) (hft : f ≠ t) (hf : f < N) (ht : t < N) (hs : wiresB (N : Int) L = true) (hl : L.length ≤ 20) :
    (∀ i k, i < N + 2 → k < N → wV N L f t i k < 18446744073709551616 ^ 40) ∧ volD N L f t < 18446744073709551616 ^ 253 := by
  have hV : ∀ i k, i < N + 2 → k < N → wV N L f t i k < 18446744073709551616 ^ 40 := fun i k hi hk => Nat.lt_trans (downTo_lt hN (fun i k hi hk => fold0_lt (fun i hi => vL_lt hf ht _ (by rw [List.getD_eq_getElem?_getD, List.getElem?_eq_getElem (by rw [vL_full hft hf ht]; exact hi)]; simp)) (fun i hi => wt_ok hs hl i N) i k hk) (N - 1) 1 (by omega) i k hi hk) (bnd_room (by omega))
  refine ⟨hV, ?_⟩
  have h1 := (go_lt (m := 2) (z0 := zA) hN hV (fun i => by unfold zA; split <;> decide) (N - 2) (by omega)).2
  exact Nat.lt_of_lt_of_le h1 (Nat.pow_le_pow_right (by decide) (by omega))

set_option maxRecDepth 100000 in
set_option maxHeartbeats 8000000 in
theorem voltages_any (N f t : Nat) (v : Value) (L : List Wr) (w : World) (h : WrAt w v L) (hl : L.length ≤ 20) (hN : N ≤ 8) (hs : wiresB (N : Int) L = true) (hft : f ≠ t) (hf : f < N) (ht : t < N) :
    Calls Tryd.prog 40 #[.agg #[.int .i64 N, v], .int .i64 f, .int .i64 t] w fun e w' => ∃ r d, e = .returned (.tuple #[r, d]) ∧ NatsIn w' r N (volN N L f t) ∧ NatAt w' d (volD N L f t) ∧ Below w.heap.size w w' := by
  obtain ⟨i1, hi, hz0, hz1, hz2⟩ := info_parts Tryd.infoIn1
  have HINI : Hid (Tryd.prog.info? 3 = some i1 ∧ i1.zero = some (.int .i64 0) ∧ i1.size = 1 ∧ i1.bytes = 8) := ⟨hi, hz0, hz1, hz2⟩
  clear hi hz0 hz1 hz2
  have h2 : 2 ≤ N := by omega
  obtain ⟨hVB, _⟩ := volD_lt hN h2 hft hf ht hs hl
  have hlen := vL_full hft hf ht
  obtain ⟨ad, cap, rfl⟩ := h.form
  obtain ⟨W1, hW1⟩ : ∃ W1, W1 = w.alloc (.cells #[.int .i64 N, .slice ad L.length cap] 34) := ⟨_, rfl⟩
  obtain ⟨bx, hbx⟩ : ∃ bx, bx = w.heap.size := ⟨_, rfl⟩
  have hb1 : Below w.heap.size w W1 := by rw [hW1]; exact (Below.refl _ _).alloc (Nat.le_refl _) _
  have q0 : W1.cell? ⟨bx, 0, none⟩ = some (.int .i64 N) := by rw [hW1, hbx]; go_simp
  have q1 : W1.cell? ⟨bx, 1, none⟩ = some (.slice ad L.length cap) := by rw [hW1, hbx]; go_simp
  have HC : Hid (∀ W, Below W1.heap.size W1 W → W.cell? ⟨bx, 0, none⟩ = some (.int .i64 N) ∧ W.cell? ⟨bx, 1, none⟩ = some (.slice ad L.length cap)) := fun W hb => ⟨by rw [hb.cell (cell_lt q0)]; exact q0, by rw [hb.cell (cell_lt q1)]; exact q1⟩
  have HWT := Hid.mk' (fun (W : World) (hb : Below W1.heap.size W1 W) => weights_any N (.slice ad L.length cap) L W ((h.later hb1).later hb) hl hN hs)
  have HOF := Hid.mk' (fun (cv : Value) (sb sc : Nat) (W : World) (hc : RowsAt W cv N (wtF L)) (hr : RowAt W sb 0 N (fun i => (((vL f t N).getD i 0 : Nat) : Int))) => Of_any cv N N (wtF L) (vL f t N) sb sc W hc hr hlen (by omega) hN (vL_lt hf ht) hN (fun i _ => wt_ok hs hl i N))
  have HAH := Hid.mk' (fun (w0 W : World) (g cl cc : Nat) (rb cp : Nat → Nat) (fv : Nat → Nat → Value) (hF : FoldAt w0 W N g rb cp fv (wV N L f t)) (hr : RowAt W cl 0 N (fun i => (((vL f t N).getD i 0 : Nat) : Int))) => Ahead_any w0 W N g N cl cc rb cp fv (wV N L f t) (vL f t N) hF hr h2 hN hlen (vL_lt hf ht) hN hVB)
  have HEND := Hid.mk' hb1
  have HLN := Hid.mk' hlen
  obtain ⟨W2, hW2⟩ : ∃ W2, W2 = W1.alloc (.cells #[.int .i64 t, .int .i64 f] 3) := ⟨_, rfl⟩
  have hb2 : Below W1.heap.size W1 W2 := by rw [hW2]; exact (Below.refl _ _).alloc (Nat.le_refl _) _
  have HO2 : Hid (W2.ownsRow W1.heap.size 3 1 (.slice (some ⟨W1.heap.size, 0, none⟩) 2 2) 2 (cellL (natL (vL f t 0)))) := by
    rw [hW2]
    refine ⟨rfl, Or.inr ⟨W1.heap.size, 2, #[.int .i64 t, .int .i64 f], rfl, Nat.le_refl _, ?_, by decide, by decide, rfl, rfl⟩⟩
    unfold World.alloc; simp
  have HB2 := Hid.mk' hb2
  have HLL : Hid ((vL f t 0).length = 2) := rfl
  clear h hs hb1 hVB hlen hb2
  go_enter Tryd.func40, Tryd.ntmps40
  go_upto_region 1 with fail
  rw [← hW1, ← hbx]
  clear hW1 hbx
  go_upto_region 2 with fail
  rw [← hW2]
  have HW2 := Hid.mk' hW2
  clear hW2
  obtain ⟨q0, q1⟩ := HC.out W2 HB2.out
  go_wp2_with fail
  clear q0 q1
  go_loopw [8, 15] (fun s i wr => ∃ k : Nat, k ≤ N ∧ i = .int .i64 k ∧ Hid (wr.ownsRow W1.heap.size 3 1 s (vL f t k).length (cellL (natL (vL f t k)))) ∧ Hid (Below W1.heap.size W1 wr)) (fun _ i _ => N - (intOf i).toNat)
  case atStart => exact ⟨0, Nat.zero_le _, rfl, HO2.out, HB2.out⟩
  case round =>
    clear HO2 HB2 HW2
    obtain ⟨k, hk, rfl, HO, HB⟩ := hrel
    have hk0 : (0 : Int) ≤ (k : Int) := by omega
    rcases Nat.lt_or_ge k N with h1 | h1
    · have hkI : (k : Int) < (N : Int) := by omega
      by_cases e1 : k = f
      · have e1d : ((k : Int) != (f : Int)) = false := by simp [e1]
        have HV := Hid.mk' (vL_no (f := f) (t := t) (k := k) (Or.inl e1))
        clear e1
        go_wp2_with fail
        exact ⟨⟨k + 1, h1, by go_num, by show World.ownsRow _ _ _ _ _ _ _; rw [HV.out]; exact HO.out, HB.out⟩, by simp [intOf]; omega⟩
      · have e1d : ((k : Int) != (f : Int)) = true := by simp; omega
        by_cases e2 : k = t
        · have e2d : ((k : Int) != (t : Int)) = false := by simp [e2]
          have HV := Hid.mk' (vL_no (f := f) (t := t) (k := k) (Or.inr e2))
          clear e1 e2
          go_wp2_with fail
          exact ⟨⟨k + 1, h1, by go_num, by show World.ownsRow _ _ _ _ _ _ _; rw [HV.out]; exact HO.out, HB.out⟩, by simp [intOf]; omega⟩
        · have e2d : ((k : Int) != (t : Int)) = true := by simp; omega
          have HV := Hid.mk' (vL_yes (f := f) (t := t) (k := k) ⟨e1, e2⟩)
          have HLK : Hid ((vL f t k).length ≤ 10) := by have := vL_len hft k; show _ ≤ _; omega
          have hsz := HB.out.size
          clear e1 e2
          go_wp2_with (at_builtin; go_must (refine wpList_append_lies _ rfl _ _ _ rfl W1.heap.size 3 i1 _ 1 8 Tryd.underlying59 HINI.out.1 HINI.out.2.1 HINI.out.2.2.1 HINI.out.2.2.2 rfl (by omega) _ _ _ rfl (HO.out.alloc _) ⟨wr.heap.size, 0, none⟩ 1 1 [.int .i64 (k : Int)] rfl rfl (one_new _ _ _) (by simp [Value.oneCell']) (by omega) (by have := HLK.out; unfold maxLen; omega) (by have := HLK.out; omega) (by simp; omega) _ rfl ?_; intro g' cap' w9 hown9 hgrow9 hat9 hlt9; have HO9 := Hid.mk' hown9; have HB9 := Hid.mk' (below_push HB.out HO.out hgrow9); clear hown9 hgrow9 hat9 hlt9))
          exact ⟨⟨k + 1, h1, by go_num, by show World.ownsRow _ _ _ _ _ _ _; rw [HV.out, natL_push, List.length_append]; exact HO9.out, HB9.out⟩, by simp [intOf]; omega⟩
    · obtain rfl : k = N := by omega
      rw [HLN.out] at HO
      have hst := statesAt_row (show wr.ownsRow W1.heap.size 3 1 u8 (vL f t k).length (cellL (natL (vL f t k))) by rw [HLN.out]; exact HO.out)
      obtain ⟨sb, sc, hse⟩ : ∃ sb sc, u8 = .slice (some ⟨sb, 0, none⟩) k sc := by
        rcases HO.out.2 with ⟨_, h0⟩ | ⟨g, cap, cur, hv, _⟩
        · omega
        · exact ⟨g, cap, hv⟩
      have hrow : RowAt wr sb 0 k (fun i => (((vL f t k).getD i 0 : Nat) : Int)) := by
        rcases hst with ⟨_, _, _, h0⟩ | ⟨b, o, c, h1, _, h2⟩
        · rw [HLN.out] at h0; omega
        · rw [hse, HLN.out] at h1
          rw [HLN.out] at h2
          simp only [Value.slice.injEq, Option.some.injEq, Addr.mk.injEq, and_true, true_and] at h1
          obtain ⟨⟨rfl, rfl⟩, _⟩ := h1
          exact h2
      subst hse
      have HROW := Hid.mk' hrow
      obtain ⟨q0, q1⟩ := HC.out wr HB.out
      clear hst hrow HO
      go_wp2_with fail
      refine (HWT.out wr HB.out).mono ?_
      clear q0 q1
      rintro e w3 ⟨cv, rfl, hcv, hb3⟩
      have HB3 := Hid.mk' (below_chain HB.out hb3)
      have HCV := Hid.mk' hcv
      have HR3 := Hid.mk' (HROW.out.later hb3)
      clear hcv hb3
      go_wp2_with fail
      refine (HOF.out cv sb sc w3 HCV.out HR3.out).mono ?_
      rintro e w4 ⟨g, rb, cp, fv, cl, cc, rfl, hF, hr4⟩
      have HF := Hid.mk' (And.intro hF hr4)
      clear hF hr4
      go_wp2_with fail
      refine (HAH.out w3 w4 g cl cc rb cp fv HF.out.1 HF.out.2).mono ?_
      rintro e w5 ⟨r, d, rfl, hn, hd, hb5⟩
      have HR := Hid.mk' (And.intro hn (And.intro hd hb5))
      clear hn hd hb5
      go_wp2_with fail
      go_ret2
      exact ⟨_, _, rfl, HR.out.1, HR.out.2.1, below_chain HEND.out (below_chain (below_chain HB3.out HF.out.1.below) HR.out.2.2)⟩
end Go.Proofs.YtlnhpkmcinohdaaDoor

/- Messages: which are right, in the program and in the document; errors with their places. -/
namespace Go.Proofs.YtlnhpkmcinohdaaDoor
open Go.RowKit

set_option maxRecDepth 100000 in
theorem Total_nums (b o cap n : Nat) (z : Nat → Int) (w : World) (h : RowAt w b o n z) (hz : ∀ k, k ≤ n → -1000000 ≤ sumN z k ∧ sumN z k ≤ 1000000) (hzi : ∀ i, i < n → -1000000 ≤ z i ∧ z i ≤ 1000000) (hn : n ≤ 1000000) :
    Calls Tryd.prog 69 #[.slice (some ⟨b, o, none⟩) n cap] w fun e w' => e = .returned (.int .i64 (sumN z n)) ∧ w' = w := by
  have HR := Hid.mk' h
  have HZ := Hid.mk' hz
  have HZI := Hid.mk' hzi
  clear h hz hzi
  go_enter Tryd.func69, Tryd.ntmps69
  go_wp2_with fail
  go_loopw [3, 8] (fun s i wr => ∃ k : Nat, k ≤ n ∧ s = .int .i64 (sumN z k) ∧ i = .int .i64 k ∧ wr = w) (fun _ i _ => n - (intOf i).toNat)
  case atStart => exact ⟨0, Nat.zero_le _, rfl, rfl, rfl⟩
  case round =>
    obtain ⟨k, hk, rfl, rfl, rfl⟩ := hrel
    rcases Nat.lt_or_ge k n with h1 | h1
    · have hc := HR.out k h1
      have hs1 := HZ.out k hk
      have hs2 := HZ.out (k + 1) h1
      have hs3 := HZI.out k h1
      have HE : Hid (sumN z (k + 1) = sumN z k + z k) := rfl
      have hkn : (k : Int) < (n : Int) := by omega
      obtain ⟨x, hx⟩ : ∃ x, x = z k := ⟨_, rfl⟩
      rw [← hx] at hc hs3 HE
      obtain ⟨s, hs⟩ : ∃ s, s = sumN z k := ⟨_, rfl⟩
      rw [← hs] at hs1 HE ⊢
      clear hx hs
      go_wp2_with fail
      exact ⟨⟨k + 1, h1, by rw [HE.out], by go_num, trivial⟩, by simp [intOf]; omega⟩
    · obtain rfl : k = n := by omega
      go_wp2_with fail
      go_ret
      exact ⟨rfl, rfl⟩

/-- The first one of n of which something holds; n, if there is none. -/
def fstB (p : Nat → Bool) : Nat → Nat
  | 0 => 0
  | n + 1 => if fstB p n < n then fstB p n else if p n then n else n + 1
theorem fstB_le (p : Nat → Bool) : ∀ n, fstB p n ≤ n
  | 0 => Nat.le_refl _
  | n + 1 => by
    have := fstB_le p n
    unfold fstB
    split
    · omega
    · split <;> omega
theorem fstB_none {p : Nat → Bool} : ∀ {n : Nat}, fstB p n = n → ∀ i, i < n → p i = false
  | 0, _, i, hi => by omega
  | n + 1, h, i, hi => by
    unfold fstB at h
    have hle := fstB_le p n
    by_cases h1 : fstB p n < n
    · rw [if_pos h1] at h; omega
    · rw [if_neg h1] at h
      cases hp : p n with
      | true => rw [hp] at h; simp at h
      | false =>
        rcases Nat.lt_or_ge i n with h2 | h2
        · exact fstB_none (by omega) i h2
        · obtain rfl : i = n := by omega
          exact hp
theorem fstB_all {p : Nat → Bool} : ∀ {n : Nat}, (∀ i, i < n → p i = false) → fstB p n = n
  | 0, _ => rfl
  | n + 1, h => by
    unfold fstB
    rw [fstB_all (fun i hi => h i (by omega)), if_neg (Nat.lt_irrefl _), h n (by omega)]
    rfl
theorem fstB_at {p : Nat → Bool} {k : Nat} (h0 : ∀ i, i < k → p i = false) (h1 : p k = true) : ∀ {n : Nat}, k < n → fstB p n = k
  | 0, h => by omega
  | n + 1, h => by
    unfold fstB
    rcases Nat.lt_or_ge k n with h2 | h2
    · rw [fstB_at h0 h1 h2, if_pos h2]
    · obtain rfl : k = n := by omega
      rw [fstB_all h0, if_neg (Nat.lt_irrefl _), h1, if_pos rfl]
theorem fstB_is {p : Nat → Bool} : ∀ {n : Nat}, fstB p n < n → p (fstB p n) = true ∧ ∀ i, i < fstB p n → p i = false
  | 0, h => by omega
  | n + 1, h => by
    have hle := fstB_le p n
    by_cases h1 : fstB p n < n
    · have e : fstB p (n + 1) = fstB p n := by
        show (if fstB p n < n then fstB p n else if p n then n else n + 1) = _
        rw [if_pos h1]
      rw [e]; exact fstB_is h1
    · have h2 : fstB p n = n := by omega
      have e : fstB p (n + 1) = if p n then n else n + 1 := by
        show (if fstB p n < n then fstB p n else if p n then n else n + 1) = _
        rw [if_neg h1]
      rw [e] at h ⊢
      cases hp : p n with
      | false => rw [hp] at h; simp at h
      | true =>
        rw [if_pos rfl]
        exact ⟨hp, fstB_none h2⟩

/-- A symbol that is none; one whose weight is 0. -/
def badS (n : Nat) (l : Nat → Int) (i : Nat) : Bool := decide (l i < 0 ∨ (n : Int) ≤ l i)
def zerS (z : Nat → Int) (l : Nat → Int) (i : Nat) : Bool := decide (z (l i).toNat = 0)
/-- The number of a message's error, and its place. -/
def msgE (z : Nat → Int) (n m : Nat) (l : Nat → Int) : Nat × Int :=
  if 200 < m then (2, -1) else if fstB (badS n l) m < m then (3, (fstB (badS n l) m : Int)) else if fstB (zerS z l) m < m then (4, (fstB (zerS z l) m : Int)) else (0, -1)
def mesE (z : Nat → Int) (n m : Nat) (l : Nat → Int) : Nat × Int := if weightsErr z n = 0 then msgE z n m l else (weightsErr z n, -1)
/-- An error by its number and place, in memory. -/
def ErrIs (a : Nat → Addr) (w : World) (v : Value) (c : Nat × Int) : Prop :=
  (v = errV a c.1 ∧ c.2 = -1 ∧ c.1 ≤ 8) ∨ ∃ pb, v = .iface 72 (.pointer (some ⟨pb, 0, none⟩)) ∧ w.cell? ⟨pb, 0, none⟩ = some (.int .i64 c.2) ∧ w.cell? ⟨pb, 1, none⟩ = some (.iface 143 (.pointer (some (a (c.1 - 1))))) ∧ 1 ≤ c.1 ∧ c.1 ≤ 8
theorem ErrIs.later {a : Nat → Addr} {w w' : World} {v : Value} {c : Nat × Int} (h : ErrIs a w v c) (hb : Below w.heap.size w w') : ErrIs a w' v c := by
  rcases h with h | ⟨pb, h1, h2, h3, h4⟩
  · exact Or.inl h
  · exact Or.inr ⟨pb, h1, by rw [hb.cell (cell_lt h2)]; exact h2, by rw [hb.cell (cell_lt h3)]; exact h3, h4⟩

theorem NumsAt.cellAt {w : World} {v : Value} {n : Nat} {z : Nat → Int} (h : NumsAt w v n z) (h0 : 0 < n) : ∃ b o cap, v = .slice (some ⟨b, o, none⟩) n cap ∧ RowAt w b o n z := by
  rcases h with ⟨_, _, _, rfl⟩ | ⟨b, o, cap, h1, _, h2⟩
  · omega
  · exact ⟨b, o, cap, h1, h2⟩
/-- A list whose length and row are known (nothing is said of the place of an empty one). -/
theorem NumsAt.rowAt {w : World} {v : Value} {n : Nat} {z : Nat → Int} (h : NumsAt w v n z) : ∃ ad cap, v = .slice ad n cap ∧ ∀ i, i < n → ∃ b o, ad = some ⟨b, o, none⟩ ∧ w.cell? ⟨b, o + i, none⟩ = some (.int .i64 (z i)) := by
  rcases h with ⟨ad, cap, rfl, rfl⟩ | ⟨b, o, cap, rfl, _, h2⟩
  · exact ⟨ad, cap, rfl, fun i hi => by omega⟩
  · exact ⟨_, cap, rfl, fun i hi => ⟨b, o, rfl, h2 i hi⟩⟩

end Go.Proofs.YtlnhpkmcinohdaaDoor

/- The interval that a message leaves: arith.cut. -/
namespace Go.Proofs.YtlnhpkmcinohdaaDoor
open Go.RowKit

theorem put_three' {W : World} {b : Nat} {x0 x1 x2 : Value} (y0 y1 y2 : Value) (h0 : W.cell? ⟨b, 0, none⟩ = some x0) (h1 : W.cell? ⟨b, 1, none⟩ = some x1) (h2 : W.cell? ⟨b, 2, none⟩ = some x2) :
    ((W.setCell ⟨b, 0, none⟩ y0).cell? ⟨b, 1, none⟩ = some x1 ∧ ((W.setCell ⟨b, 0, none⟩ y0).setCell ⟨b, 1, none⟩ y1).cell? ⟨b, 2, none⟩ = some x2) ∧
    ((((W.setCell ⟨b, 0, none⟩ y0).setCell ⟨b, 1, none⟩ y1).setCell ⟨b, 2, none⟩ y2).cell? ⟨b, 0, none⟩ = some y0 ∧ (((W.setCell ⟨b, 0, none⟩ y0).setCell ⟨b, 1, none⟩ y1).setCell ⟨b, 2, none⟩ y2).cell? ⟨b, 1, none⟩ = some y1) ∧
    (((W.setCell ⟨b, 0, none⟩ y0).setCell ⟨b, 1, none⟩ y1).setCell ⟨b, 2, none⟩ y2).cell? ⟨b, 2, none⟩ = some y2 := by
  have e1 : (W.setCell ⟨b, 0, none⟩ y0).cell? ⟨b, 1, none⟩ = some x1 := by rw [cell_put _ h0, if_neg (by simp)]; exact h1
  have e2 : ((W.setCell ⟨b, 0, none⟩ y0).setCell ⟨b, 1, none⟩ y1).cell? ⟨b, 2, none⟩ = some x2 := by rw [cell_put _ e1, if_neg (by simp), cell_put _ h0, if_neg (by simp)]; exact h2
  refine ⟨⟨e1, e2⟩, ⟨?_, ?_⟩, ?_⟩
  · rw [cell_put _ e2, if_neg (by simp), cell_put _ e1, if_neg (by simp), cell_put _ h0, if_pos rfl]
  · rw [cell_put _ e2, if_neg (by simp), cell_put _ e1, if_pos rfl]
  · rw [cell_put _ e2, if_pos rfl]
theorem NatAt.isSl {w : World} {v : Value} {n : Nat} (h : NatAt w v n) : ∃ a l c, v = .slice a l c := by
  obtain ⟨l, _, _, _, h⟩ := h
  obtain ⟨ad, cap, rfl⟩ := h.form
  exact ⟨_, _, _, rfl⟩
/-- A number's words are none of a cell that holds a list. -/
theorem NatAt.putL {W : World} {v y : Value} {n : Nat} {p : Addr} {ad : Option Addr} {l c : Nat} (h : NatAt W v n) (hc : W.cell? p = some (.slice ad l c)) : NatAt (W.setCell p y) v n := by
  obtain ⟨x, h1, h2, h3, h4⟩ := h
  refine ⟨x, h1, h2, h3, ?_⟩
  rcases h4 with h4 | ⟨b, o, cap, hv, hl, hp, hr⟩
  · exact Or.inl h4
  · refine Or.inr ⟨b, o, cap, hv, hl, hp, fun i hi => ?_⟩
    rw [cell_put _ hc, if_neg (fun e => ?_)]
    · exact hr i hi
    · have h5 := hr i hi
      rw [e, hc] at h5
      cases h5
theorem NatAt.putL3 {W : World} {v y0 y1 y2 : Value} {n b : Nat} {a0 a1 a2 : Option Addr} {l0 l1 l2 c0 c1 c2 : Nat} (h : NatAt W v n) (h0 : W.cell? ⟨b, 0, none⟩ = some (.slice a0 l0 c0)) (h1 : W.cell? ⟨b, 1, none⟩ = some (.slice a1 l1 c1)) (h2 : W.cell? ⟨b, 2, none⟩ = some (.slice a2 l2 c2)) : NatAt (((W.setCell ⟨b, 0, none⟩ y0).setCell ⟨b, 1, none⟩ y1).setCell ⟨b, 2, none⟩ y2) v n := by
  obtain ⟨⟨g0, g1⟩, _, _⟩ := put_three' y0 y1 y2 h0 h1 h2
  exact ((h.putL h0).putL g0).putL g1

set_option maxRecDepth 100000 in
theorem Times_zero (u : Value) (n : Nat) (w : World) (h : NatAt w u n) :
    Calls Tryd.prog 44 #[u, .int .u64 0] w fun e w' => ∃ v, e = .returned v ∧ NatAt w' v (n * 0) ∧ Below w.heap.size w w' := by
  obtain ⟨ad, l, cap, rfl⟩ := h.isSl
  clear h
  go_enter Tryd.func44, Tryd.ntmps44
  go_wp2_with fail
  go_ret
  exact ⟨_, rfl, ⟨[], fun i hi => by simp at hi, fun i hi => by simp at hi, by simp [wv], Or.inl ⟨_, _, rfl, rfl⟩⟩, Below.refl _ _⟩
theorem Times_all (u : Value) (n m k : Nat) (w : World) (h : NatAt w u n) (hm : m < 18446744073709551616) (hk : n < 18446744073709551616 ^ k) (hk6 : k ≤ 1000000) :
    Calls Tryd.prog 44 #[u, .int .u64 m] w fun e w' => ∃ v, e = .returned v ∧ NatAt w' v (n * m) ∧ Below w.heap.size w w' := by
  rcases Nat.eq_zero_or_pos m with rfl | hm0
  · exact Times_zero u n w h
  · exact Times_any u n m k w h hm0 hm hk hk6

/-- What a message leaves: where it begins and how wide it is, over the sum's power. -/
def cutW (z l : Nat → Int) : Nat → Nat
  | 0 => 1
  | k + 1 => cutW z l k * (z (l k).toNat).toNat
def cutL (z l : Nat → Int) (S : Nat) : Nat → Nat
  | 0 => 0
  | k + 1 => cutL z l S k * S + cutW z l k * (sumN z (l k).toNat).toNat
theorem cut_le {z l : Nat → Int} {n m S : Nat} (hz : OkW z n) (hS : sumN z n = (S : Int)) (hl : ∀ i, i < m → 0 ≤ l i ∧ l i < (n : Int)) : ∀ k, k ≤ m → cutL z l S k + cutW z l k ≤ S ^ k
  | 0, _ => by simp [cutL, cutW]
  | k + 1, hk => by
    have ih := cut_le hz hS hl k (by omega)
    obtain ⟨h0, h1⟩ := hl k (by omega)
    obtain ⟨s, hs⟩ : ∃ s : Nat, l k = (s : Int) := ⟨(l k).toNat, by omega⟩
    have hsn : s < n := by omega
    show cutL z l S k * S + cutW z l k * (sumN z (l k).toNat).toNat + cutW z l k * (z (l k).toNat).toNat ≤ S ^ (k + 1)
    rw [hs, Int.toNat_natCast]
    have hm := sumN_mono hz.nn (k := s + 1) hsn
    rw [hS] at hm
    have e : sumN z (s + 1) = sumN z s + z s := rfl
    have p1 := hz.part (k := s) (by omega)
    have p2 := hz.lt hsn
    have hle : (sumN z s).toNat + (z s).toNat ≤ S := by omega
    calc cutL z l S k * S + cutW z l k * (sumN z s).toNat + cutW z l k * (z s).toNat = cutL z l S k * S + cutW z l k * ((sumN z s).toNat + (z s).toNat) := by rw [Nat.mul_add, Nat.add_assoc]
      _ ≤ cutL z l S k * S + cutW z l k * S := Nat.add_le_add_left (Nat.mul_le_mul_left _ hle) _
      _ = (cutL z l S k + cutW z l k) * S := by rw [Nat.add_mul]
      _ ≤ S ^ k * S := Nat.mul_le_mul_right _ ih
      _ = S ^ (k + 1) := (Nat.pow_succ ..).symm
theorem cutW_pos {z l : Nat → Int} : ∀ {k : Nat}, (∀ i, i < k → 0 < z (l i).toNat) → 0 < cutW z l k
  | 0, _ => Nat.one_pos
  | k + 1, h => Nat.mul_pos (cutW_pos (fun i hi => h i (by omega))) (by have := h k (by omega); omega)
theorem pow_room {S j : Nat} (hS : S ≤ 4096) (hj : j ≤ 249) : S ^ j < 18446744073709551616 ^ 250 :=
  Nat.lt_of_le_of_lt (Nat.pow_le_pow_left (Nat.le_trans hS (by decide : 4096 ≤ 18446744073709551616)) j) (Nat.pow_lt_pow_right (by decide) (by omega))

/-- A span in memory. -/
structure SpanAt (w : World) (b : Nat) (u0 u1 u2 : Value) (x0 x1 x2 : Nat) : Prop where
  c0 : w.cell? ⟨b, 0, none⟩ = some u0
  c1 : w.cell? ⟨b, 1, none⟩ = some u1
  c2 : w.cell? ⟨b, 2, none⟩ = some u2
  n0 : NatAt w u0 x0
  n1 : NatAt w u1 x1
  n2 : NatAt w u2 x2
  fz : ∀ j, j < 3 → w.frozen? ⟨b, j, none⟩ = false

end Go.Proofs.YtlnhpkmcinohdaaDoor

/- walks.resistance, walks.Resistance: the program's. -/
namespace Go.Proofs.YtlnhpkmcinohdaaDoor
open Go.RowKit

/-- The current. -/
def curN (N : Nat) (L : List Wr) (f t : Nat) : Nat := sumTo (fun j => (volD N L f t - volN N L f t j) * (wtF L f j).toNat) N

set_option maxRecDepth 100000 in
set_option maxHeartbeats 8000000 in
theorem resistance_any (N f t : Nat) (v : Value) (L : List Wr) (w : World) (h : WrAt w v L) (hl : L.length ≤ 20) (hN : N ≤ 8) (hs : wiresB (N : Int) L = true) (hft : f ≠ t) (hf : f < N) (ht : t < N) :
    Calls Tryd.prog 31 #[.agg #[.int .i64 N, v], .int .i64 f, .int .i64 t] w fun e w' => ∃ r d, e = .returned (.tuple #[r, d]) ∧ NatAt w' r (volD N L f t) ∧ NatAt w' d (curN N L f t) ∧ Below w.heap.size w w' := by
  have h2 : 2 ≤ N := by omega
  have hDL := (volD_lt (L := L) hN h2 hft hf ht hs hl).2
  have hle := fun s => vol_le (L := L) (f := f) (t := t) h2 s
  obtain ⟨ad, cap, rfl⟩ := h.form
  obtain ⟨W1, hW1⟩ : ∃ W1, W1 = w.alloc (.cells #[.int .i64 N, .slice ad L.length cap] 34) := ⟨_, rfl⟩
  obtain ⟨bx, hbx⟩ : ∃ bx, bx = w.heap.size := ⟨_, rfl⟩
  have hb1 : Below w.heap.size w W1 := by rw [hW1]; exact (Below.refl _ _).alloc (Nat.le_refl _) _
  have q0 : W1.cell? ⟨bx, 0, none⟩ = some (.int .i64 N) := by rw [hW1, hbx]; go_simp
  have q1 : W1.cell? ⟨bx, 1, none⟩ = some (.slice ad L.length cap) := by rw [hW1, hbx]; go_simp
  have HC : Hid (∀ W, Below W1.heap.size W1 W → W.cell? ⟨bx, 0, none⟩ = some (.int .i64 N) ∧ W.cell? ⟨bx, 1, none⟩ = some (.slice ad L.length cap)) := fun W hb => ⟨by rw [hb.cell (cell_lt q0)]; exact q0, by rw [hb.cell (cell_lt q1)]; exact q1⟩
  have HWT := Hid.mk' (fun (W : World) (hb : Below W1.heap.size W1 W) => weights_any N (.slice ad L.length cap) L W ((h.later hb1).later hb) hl hN hs)
  have HVO := Hid.mk' (voltages_any N f t (.slice ad L.length cap) L W1 (h.later hb1) hl hN hs hft hf ht)
  have HEND := Hid.mk' hb1
  have HWR := Hid.mk' (fun (i : Nat) => wtF_range (wires_c hs) f i)
  have HCUR : Hid (curN N L f t = sumTo (fun j => (volD N L f t - volN N L f t j) * (wtF L f j).toNat) N) := rfl
  obtain ⟨D, hD⟩ : ∃ D, D = volD N L f t := ⟨_, rfl⟩
  obtain ⟨z, hz⟩ : ∃ z, z = volN N L f t := ⟨_, rfl⟩
  rw [← hD] at HVO HCUR hDL hle ⊢
  rw [← hz] at HVO HCUR hle
  have HDL := Hid.mk' hDL
  have HLE := Hid.mk' hle
  clear h hs hb1 hD hz hDL hle
  go_enter Tryd.func31, Tryd.ntmps31
  go_upto_region 1 with fail
  rw [← hW1, ← hbx]
  clear hW1 hbx
  go_wp2_with fail
  refine HVO.out.mono ?_
  clear q0 q1
  rintro e w2 ⟨lv, dv, rfl, hlv, hdv, hb2⟩
  obtain ⟨lg, lf, hlve, hlc⟩ := hlv
  subst hlve
  have HB2 := Hid.mk' hb2
  have HLC := Hid.mk' hlc
  have HDV := Hid.mk' hdv
  have hz0 := NatOf_zero w2
  clear hlc hdv hb2
  go_wp2_with fail
  refine hz0.mono ?_
  clear hz0
  rintro e w3 ⟨rfl, hw3⟩
  rw [hw3]
  clear hw3
  obtain ⟨q0, q1⟩ := HC.out w2 HB2.out
  go_wp2_with fail
  refine (HWT.out w2 HB2.out).mono ?_
  clear q0 q1
  rintro e w4 ⟨cv, rfl, hcv, hb4⟩
  obtain ⟨cb, co, cc, rfl, hrows⟩ := hcv
  obtain ⟨b1, o1, c1, y1, y2⟩ := hrows f hf
  have HB4 := Hid.mk' hb4
  have HY2 := Hid.mk' y2
  have hfI : (f : Int) < (N : Int) := by omega
  have hf0 : (0 : Int) ≤ (f : Int) := by omega
  clear hrows y2 hb4
  go_wp2_with fail
  clear y1
  go_loopw [10, 27] (fun s i wr => ∃ k : Nat, k ≤ N ∧ i = .int .i64 k ∧ Hid (NatAt wr s (sumTo (fun j => (D - z j) * (wtF L f j).toNat) k)) ∧ Hid (Below w4.heap.size w4 wr)) (fun _ i _ => N - (intOf i).toNat)
  case atStart => exact ⟨0, Nat.zero_le _, rfl, natAt_none _, Below.refl _ _⟩
  case round =>
    obtain ⟨k, hk, rfl, HS, HB⟩ := hrel
    have hk0 : (0 : Int) ≤ (k : Int) := by omega
    rcases Nat.lt_or_ge k N with h1 | h1
    · have hkI : (k : Int) < (N : Int) := by omega
      have y0 : wr.cell? ⟨b1, o1 + k, none⟩ = some (.int .i64 (wtF L f k)) := by rw [HB.out.cell (cell_lt (HY2.out k h1))]; exact HY2.out k h1
      obtain ⟨y1, hn1⟩ := HLC.out k h1
      have y1' : wr.cell? ⟨lg, k, none⟩ = some (lf k) := by rw [(below_chain HB4.out HB.out).cell (cell_lt y1)]; exact y1
      have HN1 := Hid.mk' (hn1.later (below_chain HB4.out HB.out))
      have HD1 := Hid.mk' (HDV.out.later (below_chain HB4.out HB.out))
      obtain ⟨c, hc⟩ : ∃ c : Nat, wtF L f k = (c : Int) := ⟨(wtF L f k).toNat, by have := HWR.out k; omega⟩
      have hwr := HWR.out k
      rw [hc] at y0 hwr
      have hcb : c ≤ 20000 := by omega
      have hxw : IntKind.u64.wrap (c : Int) = (c : Int) := by rw [IntKind.wrap_u64]; omega
      have HSN : Hid (sumTo (fun j => (D - z j) * (wtF L f j).toNat) (k + 1) = sumTo (fun j => (D - z j) * (wtF L f j).toNat) k + (D - z k) * c) := by show sumTo _ k + (D - z k) * (wtF L f k).toNat = _; rw [hc]; rfl
      have hzk := HLE.out k
      have HPB : Hid (D - z k < 18446744073709551616 ^ 253 ∧ (D - z k) * c < 18446744073709551616 ^ 255) := by
        have e1 : D - z k < 18446744073709551616 ^ 253 := Nat.lt_of_le_of_lt (Nat.sub_le _ _) HDL.out
        refine ⟨e1, ?_⟩
        have e2 : (18446744073709551616 : Nat) ^ 255 = 18446744073709551616 ^ 253 * 18446744073709551616 ^ 2 := by rw [← Nat.pow_add]
        rw [e2]
        exact Nat.mul_lt_mul'' e1 (Nat.lt_of_le_of_lt hcb (by decide))
      have HSB : Hid (sumTo (fun j => (D - z j) * (wtF L f j).toNat) k < 18446744073709551616 ^ 256) := by
        rcases sumTo_lt (z := fun j => (D - z j) * (wtF L f j).toNat) (M := 18446744073709551616 ^ 255) (n := k) (by omega) (fun j hj => by
          have e2 : (18446744073709551616 : Nat) ^ 255 = 18446744073709551616 ^ 253 * 18446744073709551616 ^ 2 := by rw [← Nat.pow_add]
          rw [e2]
          exact Nat.mul_lt_mul'' (Nat.lt_of_le_of_lt (Nat.sub_le _ _) HDL.out) (Nat.lt_of_le_of_lt (show (wtF L f j).toNat ≤ 20000 by have := HWR.out j; omega) (by decide))) with h | h
        · show _ < _; rw [show 256 = 255 + 1 from rfl, Nat.pow_succ]; exact h
        · exact absurd h (Nat.ne_of_gt (Nat.pow_pos (by decide)))
      have hmi := Minus_any dv (lf k) D (z k) 253 wr HD1.out HN1.out hzk HDL.out (by decide)
      clear hn1 y1 hc hzk
      go_wp2_with fail
      refine hmi.mono ?_
      clear hmi y0 y1'
      rintro e w5 ⟨r5, rfl, hr5, hb5⟩
      have hti := Times_all r5 (D - z k) c 253 w5 hr5 (by omega) HPB.out.1 (by decide)
      have HB5 := Hid.mk' (below_chain HB.out hb5)
      have HS5 := Hid.mk' (HS.out.later hb5)
      clear hr5 hb5
      go_wp2_with fail
      refine hti.mono ?_
      clear hti
      rintro e w6 ⟨r6, rfl, hr6, hb6⟩
      have hpl := Plus_any u10 r6 _ _ 256 w6 (HS5.out.later hb6) hr6 HSB.out (Nat.lt_of_lt_of_le HPB.out.2 (Nat.pow_le_pow_right (by decide) (by decide))) (by decide)
      rw [← HSN.out] at hpl
      have HB6 := Hid.mk' (below_chain HB5.out hb6)
      clear hr6 hb6
      go_wp2_with fail
      refine hpl.mono ?_
      clear hpl
      rintro e w7 ⟨r7, rfl, hr7, hb7⟩
      have HR7 := Hid.mk' hr7
      have HB7 := Hid.mk' (below_chain HB6.out hb7)
      clear hr7 hb7
      go_wp2_with fail
      exact ⟨⟨k + 1, h1, by go_num, HR7.out, HB7.out⟩, by simp [intOf]; omega⟩
    · obtain rfl : k = N := by omega
      go_wp2_with fail
      go_ret2
      refine ⟨_, _, rfl, HDV.out.later (below_chain HB4.out HB.out), ?_, below_chain HEND.out (below_chain HB2.out (below_chain HB4.out HB.out))⟩
      rw [HCUR.out]; exact HS.out
end Go.Proofs.YtlnhpkmcinohdaaDoor

/- walks.Resistance of a right network; the closed fact at the head of all Walks laws. -/
namespace Go.Proofs.YtlnhpkmcinohdaaDoor
open Go.RowKit

theorem toldV_forms (a : Nat → Addr) (N D : Nat) : ∃ (p q : Int) (e : Value), toldV a N D = .tuple #[.agg #[.int .i64 p, .int .i64 q], e] ∧ (e = .nilIface ∨ e = .iface 143 (.pointer (some (a 1)))) := by
  unfold toldV
  split
  · exact ⟨_, _, _, rfl, Or.inl rfl⟩
  · exact ⟨_, _, _, rfl, Or.inr rfl⟩
theorem paE_ok {N : Int} {L : List Wr} {x y : Int} (h : paE N L x y = 0) : 1 ≤ N ∧ N ≤ 8 ∧ L.length ≤ 20 ∧ wiresB N L = true ∧ joinV L.length N L = true ∧ 0 ≤ x ∧ x < N ∧ 0 ≤ y ∧ y < N ∧ x ≠ y := by
  unfold paE at h
  split at h
  · rename_i h1
    obtain ⟨k1, k2, k3, k4, k5⟩ := nwE_ok h1
    split at h
    · rename_i h2
      obtain ⟨j1, j2, j3, j4, j5⟩ := twoB_parts h2
      exact ⟨k1, k2, k3, k4, k5, j1, j2, j3, j4, j5⟩
    · cases h
  · rename_i h1; exact absurd h h1

set_option maxRecDepth 100000 in
set_option maxHeartbeats 4000000 in
theorem Resistance_ok (a : Nat → Addr) (N f t : Nat) (v : Value) (L : List Wr) (w : World) (hE : Errs w a) (h : WrAt w v L) (hp : paE N L f t = 0) (hcur : 0 < curN N L f t) :
    Calls Tryd.prog 19 #[.agg #[.int .i64 N, v], .int .i64 f, .int .i64 t] w fun e w' => e = .returned (toldV a (volD N L f t) (curN N L f t)) ∧ Below w.heap.size w w' := by
  obtain ⟨k1, k2, hl, hs, _, j1, j2, j3, j4, j5⟩ := paE_ok hp
  have hN : N ≤ 8 := by omega
  have hf : f < N := by omega
  have ht : t < N := by omega
  have hft : f ≠ t := by omega
  have h2 : 2 ≤ N := by omega
  have hDL := (volD_lt (L := L) hN h2 hft hf ht hs hl).2
  have hCL : curN N L f t < 18446744073709551616 ^ 256 := by
    rcases sumTo_lt (z := fun j => (volD N L f t - volN N L f t j) * (wtF L f j).toNat) (M := 18446744073709551616 ^ 255) (n := N) hN (fun j hj => by
      have e2 : (18446744073709551616 : Nat) ^ 255 = 18446744073709551616 ^ 253 * 18446744073709551616 ^ 2 := by rw [← Nat.pow_add]
      rw [e2]
      exact Nat.mul_lt_mul'' (Nat.lt_of_le_of_lt (Nat.sub_le _ _) hDL) (Nat.lt_of_le_of_lt (show (wtF L f j).toNat ≤ 20000 by have := wtF_range (wires_c hs) f j; omega) (by decide))) with h | h
    · show sumTo _ N < _; rw [show 256 = 255 + 1 from rfl, Nat.pow_succ]; exact h
    · exact absurd h (Nat.ne_of_gt (Nat.pow_pos (by decide)))
  obtain ⟨ad, cap, rfl⟩ := h.form
  obtain ⟨W2, hW2⟩ : ∃ W2, W2 = (w.alloc (.cells #[.int .i64 N, .slice ad L.length cap] 34)).alloc (.cells #[.int .i64 0, .int .i64 0] 52) := ⟨_, rfl⟩
  have hb2 : Below w.heap.size w W2 := by rw [hW2]; exact ((Below.refl _ _).alloc (Nat.le_refl _) _).alloc (by simp) _
  have q0 : W2.cell? ⟨w.heap.size, 0, none⟩ = some (.int .i64 N) := by rw [hW2]; go_simp
  have q1 : W2.cell? ⟨w.heap.size, 1, none⟩ = some (.slice ad L.length cap) := by rw [hW2]; go_simp
  have r0 : W2.cell? ⟨w.heap.size + 1, 0, none⟩ = some (.int .i64 0) := by rw [hW2]; go_simp
  have r1 : W2.cell? ⟨w.heap.size + 1, 1, none⟩ = some (.int .i64 0) := by rw [hW2]; go_simp
  have z0 : W2.frozen? ⟨w.heap.size + 1, 0, none⟩ = false := by rw [hW2]; go_simp
  have z1 : W2.frozen? ⟨w.heap.size + 1, 1, none⟩ = false := by rw [hW2]; go_simp
  have HQ := Hid.mk' (fun (W : World) (hb : Below W2.heap.size W2 W) => (⟨by rw [hb.cell (cell_lt q0)]; exact q0, by rw [hb.cell (cell_lt q1)]; exact q1⟩ : W.cell? ⟨w.heap.size, 0, none⟩ = some (.int .i64 N) ∧ W.cell? ⟨w.heap.size, 1, none⟩ = some (.slice ad L.length cap)))
  have HR := Hid.mk' (fun (W : World) (hb : Below W2.heap.size W2 W) => (⟨by rw [hb.cell (cell_lt r0)]; exact r0, by rw [hb.cell (cell_lt r1)]; exact r1, by rw [hb.frozen (cell_lt r0)]; exact z0, by rw [hb.frozen (cell_lt r1)]; exact z1⟩ : W.cell? ⟨w.heap.size + 1, 0, none⟩ = some (.int .i64 0) ∧ W.cell? ⟨w.heap.size + 1, 1, none⟩ = some (.int .i64 0) ∧ W.frozen? ⟨w.heap.size + 1, 0, none⟩ = false ∧ W.frozen? ⟨w.heap.size + 1, 1, none⟩ = false))
  have hpe := npError_any a N f t (.slice ad L.length cap) L W2 (hE.below hb2) (h.later hb2) (by omega)
  rw [hp] at hpe
  have HPE := Hid.mk' hpe
  have HRS := Hid.mk' (fun (W : World) (hb : Below W2.heap.size W2 W) => resistance_any N f t (.slice ad L.length cap) L W ((h.later hb2).later hb) hl hN hs hft hf ht)
  have HTO := Hid.mk' (fun (W : World) (u1 u2 : Value) (hb : Below W2.heap.size W2 W) (n1 : NatAt W u1 (volD N L f t)) (n2 : NatAt W u2 (curN N L f t)) => Told_any a u1 u2 _ _ 256 W ((hE.below hb2).below hb) n1 n2 hcur (Nat.lt_of_lt_of_le hDL (Nat.pow_le_pow_right (by decide) (by decide))) hCL (by decide))
  have HB2 := Hid.mk' hb2
  have HV0 : Hid (errV a 0 = .nilIface) := rfl
  obtain ⟨p, q, ev, htv, hev⟩ := toldV_forms a (volD N L f t) (curN N L f t)
  rw [htv] at HTO ⊢
  have HEV := Hid.mk' hev
  clear hE h hp hcur k1 k2 hs hl j1 j2 j3 j4 j5 hDL hCL hb2 r0 r1 z0 z1 hpe htv hev
  go_enter Tryd.func19, Tryd.ntmps19
  go_upto_region 1 with fail
  rw [← hW2]
  clear hW2
  go_wp2_with fail
  refine HPE.out.mono ?_
  clear q0 q1
  rintro e w3 ⟨rfl, hb3⟩
  have HB3 := Hid.mk' hb3
  obtain ⟨q0, q1⟩ := HQ.out w3 hb3
  rw [HV0.out]
  clear hb3
  go_wp2_with fail
  refine (HRS.out w3 HB3.out).mono ?_
  clear q0 q1
  rintro e w4 ⟨u1, u2, rfl, n1, n2, hb4⟩
  have HB4 := Hid.mk' (below_chain HB3.out hb4)
  have HT := Hid.mk' (HTO.out w4 u1 u2 HB4.out n1 n2)
  clear n1 n2 hb4
  go_wp2_with fail
  refine HT.out.mono ?_
  rintro e w5 ⟨rfl, hb5⟩
  have HB5 := Hid.mk' (below_chain HB4.out hb5)
  obtain ⟨r0, r1, z0, z1⟩ := HR.out w5 HB5.out
  have r1' : (w5.setCell ⟨w.heap.size + 1, 0, none⟩ (.int .i64 p)).cell? ⟨w.heap.size + 1, 1, none⟩ = some (.int .i64 0) := by rw [World.cell?_setCell_other _ _ _ _ (by simp)]; exact r1
  have HQQ : Hid (((w5.setCell ⟨w.heap.size + 1, 0, none⟩ (.int .i64 p)).setCell ⟨w.heap.size + 1, 1, none⟩ (.int .i64 q)).cell? ⟨w.heap.size + 1, 0, none⟩ = some (.int .i64 p) ∧ ((w5.setCell ⟨w.heap.size + 1, 0, none⟩ (.int .i64 p)).setCell ⟨w.heap.size + 1, 1, none⟩ (.int .i64 q)).cell? ⟨w.heap.size + 1, 1, none⟩ = some (.int .i64 q)) := ⟨by rw [World.cell?_setCell_other _ _ _ _ (by simp), World.cell?_setCell_same _ _ _ r0], by rw [World.cell?_setCell_same _ _ _ r1']⟩
  have HBF := Hid.mk' (((below_chain HB2.out HB5.out).setCell (show w.heap.size ≤ w.heap.size + 1 by omega) (p := ⟨w.heap.size + 1, 0, none⟩) (.int .i64 p)).setCell (show w.heap.size ≤ w.heap.size + 1 by omega) (p := ⟨w.heap.size + 1, 1, none⟩) (.int .i64 q))
  clear hb5
  rcases HEV.out with he | he
  · subst he
    go_wp2_with fail
    exact bodyPost_ret (v := .tuple #[.agg #[.int .i64 p, .int .i64 q], .nilIface]) (by simp [results, Tryd.results19, go_sem, HQQ.out.1, HQQ.out.2]) rfl ⟨rfl, HBF.out⟩
  · subst he
    go_wp2_with fail
    exact bodyPost_ret (v := .tuple #[.agg #[.int .i64 p, .int .i64 q], .iface 143 (.pointer (some (a 1)))]) (by simp [results, Tryd.results19, go_sem, HQQ.out.1, HQQ.out.2]) rfl ⟨rfl, HBF.out⟩

/-- Two wires, one behind the other. -/
def ohmL : List Wr := [⟨0, 1, 1⟩, ⟨1, 2, 2⟩]
theorem ohm_pa : paE (3 : Nat) ohmL (0 : Nat) (2 : Nat) = 0 := by decide +kernel
theorem ohm_vol : volD 3 ohmL 0 2 = 3 := by decide +kernel
theorem ohm_cur : curN 3 ohmL 0 2 = 2 := by decide +kernel
theorem ohm_told (a : Nat → Addr) : toldV a 3 2 = .tuple #[.agg #[.int .i64 3, .int .i64 2], .nilIface] := by
  unfold toldV
  rw [if_pos (by decide)]
  rfl
set_option maxRecDepth 100000 in
set_option maxHeartbeats 4000000 in
theorem ohm_any (a : Nat → Addr) (w : World) (hE : Errs w a) :
    Calls Tryd.prog 5 #[] w fun e w' => e = .returned (.bool true) ∧ Below w.heap.size w w' := by
  obtain ⟨W1, hW1⟩ : ∃ W1, W1 = w.alloc (.cells #[.int .i64 0, .int .i64 1, .int .i64 1, .int .i64 1, .int .i64 2, .int .i64 2] 47) := ⟨_, rfl⟩
  have hb1 : Below w.heap.size w W1 := by rw [hW1]; exact (Below.refl _ _).alloc (Nat.le_refl _) _
  have hwr : WrAt W1 (.slice (some ⟨w.heap.size, 0, none⟩) 2 2) ohmL := by
    refine ⟨some ⟨w.heap.size, 0, none⟩, 2, rfl, fun i x hx => ⟨w.heap.size, 0, rfl, ?_⟩⟩
    rw [hW1]
    rcases i with _ | _ | i
    · obtain rfl : (⟨0, 1, 1⟩ : Wr) = x := by simpa [ohmL] using hx
      refine ⟨?_, ?_, ?_⟩ <;> go_simp
    · obtain rfl : (⟨1, 2, 2⟩ : Wr) = x := by simpa [ohmL] using hx
      refine ⟨?_, ?_, ?_⟩ <;> go_simp
    · simp [ohmL] at hx
  have hres := Resistance_ok a 3 0 2 _ ohmL W1 (hE.below hb1) hwr ohm_pa (by rw [ohm_cur]; decide)
  rw [ohm_vol, ohm_cur, ohm_told] at hres
  have HRES : Hid (Calls Tryd.prog 19 #[.agg #[.int .i64 3, .slice (some ⟨w.heap.size, 0, none⟩) 2 2], .int .i64 0, .int .i64 2] W1 fun e w' => e = .returned (.tuple #[.agg #[.int .i64 3, .int .i64 2], .nilIface]) ∧ Below W1.heap.size W1 w') := hres
  have HB1 := Hid.mk' hb1
  have HW1 := Hid.mk' hW1
  clear hE hwr hres hb1 hW1
  go_enter Tryd.func5, Tryd.ntmps5
  go_wp2_with fail
  rw [← HW1.out]
  refine HRES.out.mono ?_
  rintro e w2 ⟨rfl, hb2⟩
  have HB2 := Hid.mk' (below_chain HB1.out hb2)
  have HBA : Hid (Below w.heap.size w (w2.alloc (.cells #[.int .i64 3, .int .i64 2] 52))) := HB2.out.alloc HB2.out.size _
  clear hb2
  go_wp2_with fail
  go_ret
  exact ⟨rfl, HBA.out⟩
end Go.Proofs.YtlnhpkmcinohdaaDoor

/- The document's endsError and SameNet; the program's Short. -/
namespace Go.Proofs.YtlnhpkmcinohdaaDoor
open Go.RowKit

set_option maxRecDepth 100000 in
set_option maxHeartbeats 4000000 in
theorem endsError_any (N x y : Int) (v : Value) (L : List Wr) (w : World) (h : WrAt w v L) (hl : L.length ≤ 1000) :
    Calls Tryd.prog 15 #[.agg #[.int .i64 N, v], .int .i64 x, .int .i64 y] w fun e w' => e = .returned (.int .i64 (paE N L x y : Nat)) ∧ Below w.heap.size w w' := by
  obtain ⟨ad, cap, rfl⟩ := h.form
  obtain ⟨W1, hW1⟩ : ∃ W1, W1 = w.alloc (.cells #[.int .i64 N, .slice ad L.length cap] 24) := ⟨_, rfl⟩
  obtain ⟨bx, hbx⟩ : ∃ bx, bx = w.heap.size := ⟨_, rfl⟩
  have hb1 : Below w.heap.size w W1 := by rw [hW1]; exact (Below.refl _ _).alloc (Nat.le_refl _) _
  have q0 : W1.cell? ⟨bx, 0, none⟩ = some (.int .i64 N) := by rw [hW1, hbx]; go_simp
  have q1 : W1.cell? ⟨bx, 1, none⟩ = some (.slice ad L.length cap) := by rw [hW1, hbx]; go_simp
  have hv := NetError_any N (.slice ad L.length cap) L W1 (h.later hb1) hl
  have HB1 := Hid.mk' hb1
  have HQ := Hid.mk' (And.intro q0 q1)
  have HPE : Hid (paE N L x y = if nwE N L = 0 then (if twoB N x y then 0 else 3) else nwE N L) := rfl
  clear h hb1
  generalize nwE N L = E at *
  go_enter Tryd.func15, Tryd.ntmps15
  go_upto_region 1 with fail
  rw [← hW1, ← hbx]
  clear hW1 hbx
  go_wp2_with fail
  refine hv.mono ?_
  clear hv q0 q1
  rintro e w2 ⟨rfl, hb2⟩
  have HB2 := Hid.mk' (below_chain HB1.out hb2)
  have q0 : w2.cell? ⟨bx, 0, none⟩ = some (.int .i64 N) := by rw [hb2.cell (cell_lt HQ.out.1)]; exact HQ.out.1
  clear hb2
  rcases Nat.eq_zero_or_pos E with h0 | h0
  · subst h0
    by_cases g0 : x < 0
    · have g0d : decide (x < 0) = true := decide_eq_true g0
      have HF : Hid (paE N L x y = 3) := by show _ = _; rw [HPE.out, if_pos rfl, show twoB N x y = false by unfold twoB; rw [decide_eq_false (show ¬ 0 ≤ x by omega)]; simp]; rfl
      clear g0
      go_wp2_with fail
      go_ret
      exact ⟨by rw [HF.out]; rfl, HB2.out⟩
    · have g0d : decide (x < 0) = false := decide_eq_false g0
      by_cases g1 : y < 0
      · have g1d : decide (y < 0) = true := decide_eq_true g1
        have HF : Hid (paE N L x y = 3) := by show _ = _; rw [HPE.out, if_pos rfl, show twoB N x y = false by unfold twoB; rw [decide_eq_false (show ¬ 0 ≤ y by omega)]; simp]; rfl
        clear g1
        go_wp2_with fail
        go_ret
        exact ⟨by rw [HF.out]; rfl, HB2.out⟩
      · have g1d : decide (y < 0) = false := decide_eq_false g1
        by_cases g2 : N ≤ x
        · have g2d : decide (N ≤ x) = true := decide_eq_true g2
          have HF : Hid (paE N L x y = 3) := by show _ = _; rw [HPE.out, if_pos rfl, show twoB N x y = false by unfold twoB; rw [decide_eq_false (show ¬ x < N by omega)]; simp]; rfl
          clear g2
          go_wp2_with fail
          go_ret
          exact ⟨by rw [HF.out]; rfl, HB2.out⟩
        · have g2d : decide (N ≤ x) = false := decide_eq_false g2
          by_cases g3 : N ≤ y
          · have g3d : decide (N ≤ y) = true := decide_eq_true g3
            have HF : Hid (paE N L x y = 3) := by show _ = _; rw [HPE.out, if_pos rfl, show twoB N x y = false by unfold twoB; rw [decide_eq_false (show ¬ y < N by omega)]; simp]; rfl
            clear g3
            go_wp2_with fail
            go_ret
            exact ⟨by rw [HF.out]; rfl, HB2.out⟩
          · have g3d : decide (N ≤ y) = false := decide_eq_false g3
            by_cases g4 : x = y
            · have g4d : (x == y) = true := by simpa using g4
              have HF : Hid (paE N L x y = 3) := by show _ = _; rw [HPE.out, if_pos rfl, show twoB N x y = false by unfold twoB; simp [g4]]; rfl
              clear g4
              go_wp2_with fail
              go_ret
              exact ⟨by rw [HF.out]; rfl, HB2.out⟩
            · have g4d : (x == y) = false := by simpa using g4
              have HF : Hid (paE N L x y = 0) := by
                show _ = _
                rw [HPE.out, if_pos rfl, show twoB N x y = true by unfold twoB; rw [decide_eq_true (show 0 ≤ x by omega), decide_eq_true (show x < N by omega), decide_eq_true (show 0 ≤ y by omega), decide_eq_true (show y < N by omega)]; simp [g4]]
                rfl
              clear g4
              go_wp2_with fail
              go_ret
              exact ⟨by rw [HF.out]; rfl, HB2.out⟩
  · have hd : ((E : Int) == 0) = false := by rw [beq_eq_false_iff_ne]; omega
    have HF : Hid (paE N L x y = E) := by show _ = _; rw [HPE.out, if_neg (by omega)]
    go_wp2_with fail
    go_ret
    exact ⟨by rw [HF.out]; rfl, HB2.out⟩

set_option maxRecDepth 100000 in
theorem wire_same (a b c : Int) (w : World) : (binOp BinOp.neq 48 (.agg #[.int .i64 a, .int .i64 b, .int .i64 c]) (.agg #[.int .i64 a, .int .i64 b, .int .i64 c])).run Tryd.prog w = .ok (.bool false) w := by
  go_simp

set_option maxRecDepth 100000 in
set_option maxHeartbeats 4000000 in
theorem SameNet_any (N : Int) (v u : Value) (L : List Wr) (w : World) (h : WrAt w v L) (k : WrAt w u L) (hl : L.length ≤ 1000) :
    Calls Tryd.prog 18 #[.agg #[.int .i64 N, v], .agg #[.int .i64 N, u]] w fun e w' => e = .returned (.bool true) ∧ Below w.heap.size w w' := by
  obtain ⟨ad, cap, rfl⟩ := h.form
  obtain ⟨ad2, cap2, rfl⟩ := k.form
  obtain ⟨W1, hW1⟩ : ∃ W1, W1 = (w.alloc (.cells #[.int .i64 N, .slice ad L.length cap] 24)).alloc (.cells #[.int .i64 N, .slice ad2 L.length cap2] 24) := ⟨_, rfl⟩
  have hb1 : Below w.heap.size w W1 := by rw [hW1]; exact ((Below.refl _ _).alloc (Nat.le_refl _) _).alloc (by simp) _
  have q0 : W1.cell? ⟨w.heap.size, 0, none⟩ = some (.int .i64 N) := by rw [hW1]; go_simp
  have q1 : W1.cell? ⟨w.heap.size, 1, none⟩ = some (.slice ad L.length cap) := by rw [hW1]; go_simp
  have q2 : W1.cell? ⟨w.heap.size + 1, 0, none⟩ = some (.int .i64 N) := by rw [hW1]; go_simp
  have q3 : W1.cell? ⟨w.heap.size + 1, 1, none⟩ = some (.slice ad2 L.length cap2) := by rw [hW1]; go_simp
  have HQ := Hid.mk' (And.intro (And.intro q0 q1) (And.intro q2 q3))
  have HA := Hid.mk' (h.later hb1)
  have HK := Hid.mk' (k.later hb1)
  have HB1 := Hid.mk' hb1
  clear h k hb1
  go_enter Tryd.func18, Tryd.ntmps18
  go_upto_region 1 with fail
  rw [← hW1]
  clear hW1
  go_wp2_with fail
  clear q0 q1 q2 q3
  go_loopw [5] (fun t wr => ∃ i n : Nat, i ≤ L.length ∧ t = .int .i64 i ∧ wr = W1.drewN n) (fun t _ => L.length - (intOf t).toNat)
  case atStart => exact ⟨0, 0, Nat.zero_le _, rfl, rfl⟩
  case round =>
    obtain ⟨i, n, hi, rfl, rfl⟩ := hrel
    have hd := below_drawn (Below.refl W1.heap.size W1) n
    have q1 : (W1.drewN n).cell? ⟨w.heap.size, 1, none⟩ = some (.slice ad L.length cap) := by rw [hd.cell (cell_lt HQ.out.1.2)]; exact HQ.out.1.2
    have q3 : (W1.drewN n).cell? ⟨w.heap.size + 1, 1, none⟩ = some (.slice ad2 L.length cap2) := by rw [hd.cell (cell_lt HQ.out.2.2)]; exact HQ.out.2.2
    have hi0 : (0 : Int) ≤ (i : Int) := by omega
    rcases Nat.lt_or_ge i L.length with h1 | h1
    · have hiI : (i : Int) < (L.length : Int) := by omega
      obtain ⟨x, hx⟩ : ∃ x, L[i]? = some x := ⟨_, List.getElem?_eq_getElem h1⟩
      obtain ⟨b, o, hbo, x0, x1, x2⟩ := (HA.out.later hd).at hx
      obtain ⟨b', o', hbo', y0, y1, y2⟩ := (HK.out.later hd).at hx
      subst hbo
      subst hbo'
      have hq := fun (W : World) => wire_same x.a x.b x.c W
      clear hx hd
      generalize hW2 : W1.drewN n = W2 at *
      go_wp2_with fail
      go_quiet (fail)
      go_wp2_with fail
      exact ⟨⟨i + 1, n + nq, by omega, rfl, by rw [← hW2, World.drewN_drewN]⟩, by simp [intOf]; omega⟩
    · obtain rfl : i = L.length := by omega
      have HB2 := Hid.mk' (below_chain HB1.out hd)
      clear hd
      go_wp2_with fail
      go_ret
      exact ⟨rfl, HB2.out⟩

set_option maxRecDepth 100000 in
set_option maxHeartbeats 4000000 in
theorem WShort_any (a : Nat → Addr) (N x y : Int) (v : Value) (L : List Wr) (w : World) (hE : Errs w a) (h : WrAt w v L) (hl : L.length ≤ 1000) :
    Calls Tryd.prog 17 #[.agg #[.int .i64 N, v], .int .i64 x, .int .i64 y] w fun e w' => ∃ (n : Int) (v' : Value), e = .returned (.tuple #[.agg #[.int .i64 n, v'], errV a (paE N L x y)]) ∧ (paE N L x y ≠ 0 → n = 0 ∧ v' = .slice none 0 0) ∧ (paE N L x y = 0 → n = N - 1 ∧ WrAt w' v' (shortL (min x y) (max x y) L)) ∧ Below w.heap.size w w' := by
  obtain ⟨ad, cap, rfl⟩ := h.form
  obtain ⟨W2, hW2⟩ : ∃ W2, W2 = (w.alloc (.cells #[.int .i64 N, .slice ad L.length cap] 34)).alloc (.cells #[.int .i64 0, .slice none 0 0] 34) := ⟨_, rfl⟩
  have hb2 : Below w.heap.size w W2 := by rw [hW2]; exact ((Below.refl _ _).alloc (Nat.le_refl _) _).alloc (by simp) _
  have q0 : W2.cell? ⟨w.heap.size, 0, none⟩ = some (.int .i64 N) := by rw [hW2]; go_simp
  have q1 : W2.cell? ⟨w.heap.size, 1, none⟩ = some (.slice ad L.length cap) := by rw [hW2]; go_simp
  have r0 : W2.cell? ⟨w.heap.size + 1, 0, none⟩ = some (.int .i64 0) := by rw [hW2]; go_simp
  have r1 : W2.cell? ⟨w.heap.size + 1, 1, none⟩ = some (.slice none 0 0) := by rw [hW2]; go_simp
  have z0 : W2.frozen? ⟨w.heap.size + 1, 0, none⟩ = false := by rw [hW2]; go_simp
  have z1 : W2.frozen? ⟨w.heap.size + 1, 1, none⟩ = false := by rw [hW2]; go_simp
  have HQ := Hid.mk' (fun (W : World) (hb : Below W2.heap.size W2 W) => (⟨by rw [hb.cell (cell_lt q0)]; exact q0, by rw [hb.cell (cell_lt q1)]; exact q1⟩ : W.cell? ⟨w.heap.size, 0, none⟩ = some (.int .i64 N) ∧ W.cell? ⟨w.heap.size, 1, none⟩ = some (.slice ad L.length cap)))
  have HR := Hid.mk' (fun (W : World) (hb : Below W2.heap.size W2 W) => (⟨by rw [hb.cell (cell_lt r0)]; exact r0, by rw [hb.cell (cell_lt r1)]; exact r1, by rw [hb.frozen (cell_lt r0)]; exact z0, by rw [hb.frozen (cell_lt r1)]; exact z1⟩ : W.cell? ⟨w.heap.size + 1, 0, none⟩ = some (.int .i64 0) ∧ W.cell? ⟨w.heap.size + 1, 1, none⟩ = some (.slice none 0 0) ∧ W.frozen? ⟨w.heap.size + 1, 0, none⟩ = false ∧ W.frozen? ⟨w.heap.size + 1, 1, none⟩ = false))
  have HPE := Hid.mk' (npError_any a N x y (.slice ad L.length cap) L W2 (hE.below hb2) (h.later hb2) hl)
  have HSH : Hid (paE N L x y = 0 → ∀ W, Below W2.heap.size W2 W → _) := fun (hp : paE N L x y = 0) (W : World) (hb : Below W2.heap.size W2 W) => wshort_any N x y (.slice ad L.length cap) L W ((h.later hb2).later hb) hl (wires_sm (by have := (paE_ok hp).2.1; omega) (paE_ok hp).2.2.2.1).1 (by have := (paE_ok hp).1; have := (paE_ok hp).2.1; omega)
  have HB2 := Hid.mk' hb2
  have HLT := Hid.mk' (cell_lt r0)
  have HV0 : Hid (errV a 0 = .nilIface) := rfl
  clear hE h hb2 r0 r1 z0 z1
  go_enter Tryd.func17, Tryd.ntmps17
  go_upto_region 1 with fail
  rw [← hW2]
  clear hW2
  go_wp2_with fail
  refine HPE.out.mono ?_
  clear q0 q1
  rintro e w3 ⟨rfl, hb3⟩
  have HB3 := Hid.mk' hb3
  rcases Nat.eq_zero_or_pos (paE N L x y) with h0 | h0
  · obtain ⟨q0, q1⟩ := HQ.out w3 hb3
    have HS3 := Hid.mk' (HSH.out h0 w3 hb3)
    have H0 := Hid.mk' h0
    rw [h0, HV0.out]
    clear hb3 h0 HSH HPE
    go_wp2_with fail
    refine HS3.out.mono ?_
    clear q0 q1 HS3
    rintro e w5 ⟨v', rfl, hv', hb5, hge⟩
    obtain ⟨va, vc, rfl⟩ := hv'.form
    obtain ⟨r0, r1, z0, z1⟩ := HR.out w5 (below_chain HB3.out hb5)
    have hlt := HLT.out
    have hsz := HB3.out.size
    have hsz2 := HB2.out.size
    generalize hSLe : shortL (min x y) (max x y) L = SL at *
    have HSLe := Hid.mk' hSLe
    clear hSLe
    have HV := Hid.mk' hv'
    have HF : Hid (FarW (.slice va SL.length vc) SL (w.heap.size + 1)) := Or.inr fun b o k c e => by have := hge b o k c e; have : w.heap.size + 1 < W2.heap.size := hlt; omega
    have r1' : (w5.setCell ⟨w.heap.size + 1, 0, none⟩ (.int .i64 (N - 1))).cell? ⟨w.heap.size + 1, 1, none⟩ = some (.slice none 0 0) := by rw [World.cell?_setCell_other _ _ _ _ (by simp)]; exact r1
    have HQQ : Hid (((w5.setCell ⟨w.heap.size + 1, 0, none⟩ (.int .i64 (N - 1))).setCell ⟨w.heap.size + 1, 1, none⟩ (.slice va SL.length vc)).cell? ⟨w.heap.size + 1, 0, none⟩ = some (.int .i64 (N - 1)) ∧ ((w5.setCell ⟨w.heap.size + 1, 0, none⟩ (.int .i64 (N - 1))).setCell ⟨w.heap.size + 1, 1, none⟩ (.slice va SL.length vc)).cell? ⟨w.heap.size + 1, 1, none⟩ = some (.slice va SL.length vc)) := ⟨by rw [World.cell?_setCell_other _ _ _ _ (by simp), World.cell?_setCell_same _ _ _ r0], by rw [World.cell?_setCell_same _ _ _ r1']⟩
    have HBF := Hid.mk' (((below_chain HB2.out (below_chain HB3.out hb5)).setCell (show w.heap.size ≤ w.heap.size + 1 by omega) (p := ⟨w.heap.size + 1, 0, none⟩) (.int .i64 (N - 1))).setCell (show w.heap.size ≤ w.heap.size + 1 by omega) (p := ⟨w.heap.size + 1, 1, none⟩) (.slice va SL.length vc))
    clear hv' hge hb5 hlt hsz hsz2 HR HLT
    go_wp2_with fail
    exact bodyPost_ret (v := .tuple #[.agg #[.int .i64 (N - 1), .slice va SL.length vc], .nilIface]) (by simp [results, Tryd.results17, go_sem, HQQ.out.1, HQQ.out.2]) rfl ⟨_, _, by rw [H0.out, HV0.out], fun h => absurd H0.out h, fun _ => ⟨rfl, by rw [HSLe.out]; exact (HV.out.put HF.out _ _).put HF.out _ _⟩, HBF.out⟩
  · obtain ⟨r0, r1, z0, z1⟩ := HR.out w3 hb3
    have HP := Hid.mk' h0
    have HVE : Hid (errV a (paE N L x y) = .iface 143 (.pointer (some (a (paE N L x y - 1))))) := by show _ = _; unfold errV; rw [if_neg (by omega)]
    rw [HVE.out]
    generalize hEe : paE N L x y = E at *
    have HEe := Hid.mk' hEe
    clear hEe
    have r1' : (w3.setCell ⟨w.heap.size + 1, 0, none⟩ (.int .i64 0)).cell? ⟨w.heap.size + 1, 1, none⟩ = some (.slice none 0 0) := by rw [World.cell?_setCell_other _ _ _ _ (by simp)]; exact r1
    have HQQ : Hid (((w3.setCell ⟨w.heap.size + 1, 0, none⟩ (.int .i64 0)).setCell ⟨w.heap.size + 1, 1, none⟩ (.slice none 0 0)).cell? ⟨w.heap.size + 1, 0, none⟩ = some (.int .i64 0) ∧ ((w3.setCell ⟨w.heap.size + 1, 0, none⟩ (.int .i64 0)).setCell ⟨w.heap.size + 1, 1, none⟩ (.slice none 0 0)).cell? ⟨w.heap.size + 1, 1, none⟩ = some (.slice none 0 0)) := ⟨by rw [World.cell?_setCell_other _ _ _ _ (by simp), World.cell?_setCell_same _ _ _ r0], by rw [World.cell?_setCell_same _ _ _ r1']⟩
    have HBF := Hid.mk' (((below_chain HB2.out hb3).setCell (show w.heap.size ≤ w.heap.size + 1 by omega) (p := ⟨w.heap.size + 1, 0, none⟩) (.int .i64 0)).setCell (show w.heap.size ≤ w.heap.size + 1 by omega) (p := ⟨w.heap.size + 1, 1, none⟩) (.slice none 0 0))
    clear hb3 h0 HSH HPE HR HLT
    go_wp2_with fail
    exact bodyPost_ret (v := .tuple #[.agg #[.int .i64 0, .slice none 0 0], .iface 143 (.pointer (some (a (E - 1))))]) (by simp [results, Tryd.results17, go_sem, HQQ.out.1, HQQ.out.2]) rfl ⟨_, _, by rw [HEe.out, HVE.out], fun _ => ⟨rfl, rfl⟩, fun h => absurd (HEe.out.symm.trans h) (by have := HP.out; omega), HBF.out⟩
end Go.Proofs.YtlnhpkmcinohdaaDoor
