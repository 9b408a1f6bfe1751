/- walks.voltages: over one number. -/
import Derived.Test.YtlnhpkmcinohdaaDoorPackA
import Derived.Test.YtlnhpkmcinohdaaDoorPackB
import Derived.Test.YtlnhpkmcinohdaaDoorWeights
import Derived.Test.YtlnhpkmcinohdaaDoorCode
import Derived.Test.YtlnhpkmcinohdaaDoorNatTold
import Derived.Test.YtlnhpkmcinohdaaDoorLastOp
import Derived.Test.YtlnhpkmcinohdaaDoorWlVal
import Derived.Test.YtlnhpkmcinohdaaDoorClosed
import Derived.Test.YtlnhpkmcinohdaaDoorInts
import Derived.BigQuiet
namespace Go.Proofs.YtlnhpkmcinohdaaDoor
open Go.RowKit

/-- The vertices in the order in which they are taken: the two, then the others. -/
def vL (f t k : Nat) : List Nat := t :: f :: (List.range k).filter (fun v => v != f && v != t)
theorem vL_yes {f t k : Nat} (h : k ≠ f ∧ k ≠ t) : vL f t (k + 1) = vL f t k ++ [k] := by
  unfold vL
  rw [List.range_succ, List.filter_append]
  simp [h.1, h.2]
theorem vL_no {f t k : Nat} (h : k = f ∨ k = t) : vL f t (k + 1) = vL f t k := by
  unfold vL
  rw [List.range_succ, List.filter_append]
  rcases h with h | h <;> simp [h]
theorem vL_len {f t : Nat} (h : f ≠ t) : ∀ k, (vL f t k).length + (if f < k then 1 else 0) + (if t < k then 1 else 0) = k + 2
  | 0 => by simp [vL]
  | k + 1 => by
    have ih := vL_len h k
    by_cases h1 : k ≠ f ∧ k ≠ t
    · rw [vL_yes h1, List.length_append]
      simp only [List.length_cons, List.length_nil]
      split at ih <;> split at ih <;> split <;> split <;> omega
    · rw [vL_no (by omega)]
      split at ih <;> split at ih <;> split <;> split <;> omega
theorem vL_full {f t N : Nat} (h : f ≠ t) (hf : f < N) (ht : t < N) : (vL f t N).length = N := by
  have := vL_len h N
  rw [if_pos hf, if_pos ht] at this
  omega
theorem vL_lt {f t N : Nat} (hf : f < N) (ht : t < N) : ∀ x, x ∈ vL f t N → x < N := by
  intro x hx
  simp only [vL, List.mem_cons, List.mem_filter, List.mem_range] at hx
  rcases hx with rfl | rfl | ⟨h, _⟩
  · exact ht
  · exact hf
  · exact h
theorem takeV_row {n s : Nat} {V : Nat → Nat → Nat} {t k : Nat} (hst : s ≤ t) (htn : t < n) : takeV n s V t k = V t k := by
  unfold takeV takeTo
  rw [if_neg (by omega), if_neg (by omega), if_neg (by omega)]
theorem takeV_out {n s : Nat} {V : Nat → Nat → Nat} {t : Nat} (hst : s < t) : takeV n s V (n + 1) t = V (n + 1) t := by
  unfold takeV takeTo
  rw [if_neg (by omega)]
  split
  · omega
  · rw [if_neg (by omega)]
theorem takeV_own {n s : Nat} {V : Nat → Nat → Nat} : takeV n s V (n + 1) s = sumTo (V s) s := by unfold takeV; rw [if_pos ⟨rfl, rfl⟩]
theorem sumTo_congr {a b : Nat → Nat} : ∀ {n : Nat}, (∀ i, i < n → a i = b i) → sumTo a n = sumTo b n
  | 0, _ => rfl
  | n + 1, h => by show sumTo a n + a n = sumTo b n + b n; rw [sumTo_congr (fun i hi => h i (by omega)), h n (by omega)]
/-- What goes out of a state that is taken out is what its row holds then. -/
theorem downTo_out {n : Nat} {V : Nat → Nat → Nat} : ∀ c s, s + c ≤ n → ∀ t, s ≤ t → t < s + c → downTo n V c s (n + 1) t = sumTo (downTo n V c s t) t
  | 0, s, _, t, h1, h2 => by omega
  | c + 1, s, h, t, h1, h2 => by
    show takeV n s (downTo n V c (s + 1)) (n + 1) t = sumTo (takeV n s (downTo n V c (s + 1)) t) t
    rw [sumTo_congr (b := downTo n V c (s + 1) t) (fun k _ => takeV_row h1 (by omega))]
    rcases Nat.lt_or_ge s t with h3 | h3
    · rw [takeV_out h3]; exact downTo_out c (s + 1) (by omega) t (by omega) (by omega)
    · obtain rfl : s = t := by omega
      exact takeV_own
theorem sumTo_mul_le {z : Nat → Nat} {D : Nat} {V : Nat → Nat} : ∀ {n : Nat}, (∀ i, i < n → z i ≤ D) → sumTo (fun k => z k * V k) n ≤ D * sumTo V n
  | 0, _ => Nat.zero_le _
  | n + 1, h => by
    show sumTo _ n + z n * V n ≤ D * (sumTo V n + V n)
    have h1 := sumTo_mul_le (z := z) (V := V) (n := n) (fun i hi => h i (by omega))
    have h2 := Nat.mul_le_mul_right (V n) (h n (by omega))
    rw [Nat.mul_add]; omega
/-- No chance is above 1. -/
theorem now_le {n m : Nat} {V : Nat → Nat → Nat} {z0 : Nat → Nat} (hz : ∀ i, z0 i ≤ 1) (hV : ∀ s, m ≤ s → s < n → V (n + 1) s = sumTo (V s) s) : ∀ c, m + c ≤ n → ∀ i, i < m + c → nowV n V m z0 c i ≤ denV n V m c
  | 0, _, i, _ => hz i
  | c + 1, h, i, hi => by
    have ih := now_le (z0 := z0) hz hV c (by omega)
    show (if i < m + c then _ else _) ≤ denV n V m c * V (n + 1) (m + c)
    split
    · rename_i h1
      exact Nat.mul_le_mul_right _ (ih i h1)
    · rw [hV (m + c) (by omega) (by omega)]
      exact sumTo_mul_le (fun k hk => ih k hk)
theorem inV_le {l : List Nat} {z : Nat → Nat} {D : Nat} : ∀ {c : Nat}, (∀ i, i < c → z i ≤ D) → ∀ s, inV l z c s ≤ D
  | 0, _, s => Nat.zero_le _
  | c + 1, h, s => by
    show (if _ then _ else _) ≤ D
    split
    · exact h c (by omega)
    · exact inV_le (fun i hi => h i (by omega)) s
/-- The chain of a network when all but two vertices are taken out, one by one. -/
def wV (N : Nat) (L : List Wr) (f t : Nat) : Nat → Nat → Nat := downTo N (fold0 (vL f t N) (wtF L) N N) (N - 1) 1
def volD (N : Nat) (L : List Wr) (f t : Nat) : Nat := denV N (wV N L f t) 2 (N - 2)
def volN (N : Nat) (L : List Wr) (f t : Nat) : Nat → Nat := inV (vL f t N) (nowV N (wV N L f t) 2 zA (N - 2)) N
theorem vol_le {N : Nat} {L : List Wr} {f t : Nat} (h2 : 2 ≤ N) (s : Nat) : volN N L f t s ≤ volD N L f t :=
  inV_le (fun i hi => now_le (n := N) (m := 2) (fun i => by unfold zA; split <;> decide) (fun s h1 h3 => downTo_out (N - 1) 1 (by omega) s (by omega) (by omega)) (N - 2) (by omega) i (by omega)) s
theorem volD_lt {N : Nat} {L : List Wr} {f t : Nat} (hN : N ≤ 8) (h2 : 2 ≤ N) (hft : f ≠ t) (hf : f < N) (ht : t < N) (hs : wiresB (N : Int) L = true) (hl : L.length ≤ 20) :
    (∀ i k, i < N + 2 → k < N → wV N L f t i k < 18446744073709551616 ^ 40) ∧ volD N L f t < 18446744073709551616 ^ 253 := by
  have hV : ∀ i k, i < N + 2 → k < N → wV N L f t i k < 18446744073709551616 ^ 40 := fun i k hi hk => Nat.lt_trans (downTo_lt hN (fun i k hi hk => fold0_lt (fun i hi => vL_lt hf ht _ (by rw [List.getD_eq_getElem?_getD, List.getElem?_eq_getElem (by rw [vL_full hft hf ht]; exact hi)]; simp)) (fun i hi => wt_ok hs hl i N) i k hk) (N - 1) 1 (by omega) i k hi hk) (bnd_room (by omega))
  refine ⟨hV, ?_⟩
  have h1 := (go_lt (m := 2) (z0 := zA) hN hV (fun i => by unfold zA; split <;> decide) (N - 2) (by omega)).2
  exact Nat.lt_of_lt_of_le h1 (Nat.pow_le_pow_right (by decide) (by omega))

set_option maxRecDepth 100000 in
set_option maxHeartbeats 8000000 in
theorem voltages_any (N f t : Nat) (v : Value) (L : List Wr) (w : World) (h : WrAt w v L) (hl : L.length ≤ 20) (hN : N ≤ 8) (hs : wiresB (N : Int) L = true) (hft : f ≠ t) (hf : f < N) (ht : t < N) :
    Calls Tryd.prog 40 #[.agg #[.int .i64 N, v], .int .i64 f, .int .i64 t] w fun e w' => ∃ r d, e = .returned (.tuple #[r, d]) ∧ NatsIn w' r N (volN N L f t) ∧ NatAt w' d (volD N L f t) ∧ Below w.heap.size w w' := by
  obtain ⟨i1, hi, hz0, hz1, hz2⟩ := info_parts Tryd.infoIn1
  have HINI : Hid (Tryd.prog.info? 3 = some i1 ∧ i1.zero = some (.int .i64 0) ∧ i1.size = 1 ∧ i1.bytes = 8) := ⟨hi, hz0, hz1, hz2⟩
  clear hi hz0 hz1 hz2
  have h2 : 2 ≤ N := by omega
  obtain ⟨hVB, _⟩ := volD_lt hN h2 hft hf ht hs hl
  have hlen := vL_full hft hf ht
  obtain ⟨ad, cap, rfl⟩ := h.form
  obtain ⟨W1, hW1⟩ : ∃ W1, W1 = w.alloc (.cells #[.int .i64 N, .slice ad L.length cap] 34) := ⟨_, rfl⟩
  obtain ⟨bx, hbx⟩ : ∃ bx, bx = w.heap.size := ⟨_, rfl⟩
  have hb1 : Below w.heap.size w W1 := by rw [hW1]; exact (Below.refl _ _).alloc (Nat.le_refl _) _
  have q0 : W1.cell? ⟨bx, 0, none⟩ = some (.int .i64 N) := by rw [hW1, hbx]; go_simp
  have q1 : W1.cell? ⟨bx, 1, none⟩ = some (.slice ad L.length cap) := by rw [hW1, hbx]; go_simp
  have HC : Hid (∀ W, Below W1.heap.size W1 W → W.cell? ⟨bx, 0, none⟩ = some (.int .i64 N) ∧ W.cell? ⟨bx, 1, none⟩ = some (.slice ad L.length cap)) := fun W hb => ⟨by rw [hb.cell (cell_lt q0)]; exact q0, by rw [hb.cell (cell_lt q1)]; exact q1⟩
  have HWT := Hid.mk' (fun (W : World) (hb : Below W1.heap.size W1 W) => weights_any N (.slice ad L.length cap) L W ((h.later hb1).later hb) hl hN hs)
  have HOF := Hid.mk' (fun (cv : Value) (sb sc : Nat) (W : World) (hc : RowsAt W cv N (wtF L)) (hr : RowAt W sb 0 N (fun i => (((vL f t N).getD i 0 : Nat) : Int))) => Of_any cv N N (wtF L) (vL f t N) sb sc W hc hr hlen (by omega) hN (vL_lt hf ht) hN (fun i _ => wt_ok hs hl i N))
  have HAH := Hid.mk' (fun (w0 W : World) (g cl cc : Nat) (rb cp : Nat → Nat) (fv : Nat → Nat → Value) (hF : FoldAt w0 W N g rb cp fv (wV N L f t)) (hr : RowAt W cl 0 N (fun i => (((vL f t N).getD i 0 : Nat) : Int))) => Ahead_any w0 W N g N cl cc rb cp fv (wV N L f t) (vL f t N) hF hr h2 hN hlen (vL_lt hf ht) hN hVB)
  have HEND := Hid.mk' hb1
  have HLN := Hid.mk' hlen
  obtain ⟨W2, hW2⟩ : ∃ W2, W2 = W1.alloc (.cells #[.int .i64 t, .int .i64 f] 3) := ⟨_, rfl⟩
  have hb2 : Below W1.heap.size W1 W2 := by rw [hW2]; exact (Below.refl _ _).alloc (Nat.le_refl _) _
  have HO2 : Hid (W2.ownsRow W1.heap.size 3 1 (.slice (some ⟨W1.heap.size, 0, none⟩) 2 2) 2 (cellL (natL (vL f t 0)))) := by
    rw [hW2]
    refine ⟨rfl, Or.inr ⟨W1.heap.size, 2, #[.int .i64 t, .int .i64 f], rfl, Nat.le_refl _, ?_, by decide, by decide, rfl, rfl⟩⟩
    unfold World.alloc; simp
  have HB2 := Hid.mk' hb2
  have HLL : Hid ((vL f t 0).length = 2) := rfl
  clear h hs hb1 hVB hlen hb2
  go_enter Tryd.func40, Tryd.ntmps40
  go_upto_region 1 with fail
  rw [← hW1, ← hbx]
  clear hW1 hbx
  go_upto_region 2 with fail
  rw [← hW2]
  have HW2 := Hid.mk' hW2
  clear hW2
  obtain ⟨q0, q1⟩ := HC.out W2 HB2.out
  go_wp2_with fail
  clear q0 q1
  go_loopw [8, 15] (fun s i wr => ∃ k : Nat, k ≤ N ∧ i = .int .i64 k ∧ Hid (wr.ownsRow W1.heap.size 3 1 s (vL f t k).length (cellL (natL (vL f t k)))) ∧ Hid (Below W1.heap.size W1 wr)) (fun _ i _ => N - (intOf i).toNat)
  case atStart => exact ⟨0, Nat.zero_le _, rfl, HO2.out, HB2.out⟩
  case round =>
    clear HO2 HB2 HW2
    obtain ⟨k, hk, rfl, HO, HB⟩ := hrel
    have hk0 : (0 : Int) ≤ (k : Int) := by omega
    rcases Nat.lt_or_ge k N with h1 | h1
    · have hkI : (k : Int) < (N : Int) := by omega
      by_cases e1 : k = f
      · have e1d : ((k : Int) != (f : Int)) = false := by simp [e1]
        have HV := Hid.mk' (vL_no (f := f) (t := t) (k := k) (Or.inl e1))
        clear e1
        go_wp2_with fail
        exact ⟨⟨k + 1, h1, by go_num, by show World.ownsRow _ _ _ _ _ _ _; rw [HV.out]; exact HO.out, HB.out⟩, by simp [intOf]; omega⟩
      · have e1d : ((k : Int) != (f : Int)) = true := by simp; omega
        by_cases e2 : k = t
        · have e2d : ((k : Int) != (t : Int)) = false := by simp [e2]
          have HV := Hid.mk' (vL_no (f := f) (t := t) (k := k) (Or.inr e2))
          clear e1 e2
          go_wp2_with fail
          exact ⟨⟨k + 1, h1, by go_num, by show World.ownsRow _ _ _ _ _ _ _; rw [HV.out]; exact HO.out, HB.out⟩, by simp [intOf]; omega⟩
        · have e2d : ((k : Int) != (t : Int)) = true := by simp; omega
          have HV := Hid.mk' (vL_yes (f := f) (t := t) (k := k) ⟨e1, e2⟩)
          have HLK : Hid ((vL f t k).length ≤ 10) := by have := vL_len hft k; show _ ≤ _; omega
          have hsz := HB.out.size
          clear e1 e2
          go_wp2_with (at_builtin; go_must (refine wpList_append_lies _ rfl _ _ _ rfl W1.heap.size 3 i1 _ 1 8 Tryd.underlying59 HINI.out.1 HINI.out.2.1 HINI.out.2.2.1 HINI.out.2.2.2 rfl (by omega) _ _ _ rfl (HO.out.alloc _) ⟨wr.heap.size, 0, none⟩ 1 1 [.int .i64 (k : Int)] rfl rfl (one_new _ _ _) (by simp [Value.oneCell']) (by omega) (by have := HLK.out; unfold maxLen; omega) (by have := HLK.out; omega) (by simp; omega) _ rfl ?_; intro g' cap' w9 hown9 hgrow9 hat9 hlt9; have HO9 := Hid.mk' hown9; have HB9 := Hid.mk' (below_push HB.out HO.out hgrow9); clear hown9 hgrow9 hat9 hlt9))
          exact ⟨⟨k + 1, h1, by go_num, by show World.ownsRow _ _ _ _ _ _ _; rw [HV.out, natL_push, List.length_append]; exact HO9.out, HB9.out⟩, by simp [intOf]; omega⟩
    · obtain rfl : k = N := by omega
      rw [HLN.out] at HO
      have hst := statesAt_row (show wr.ownsRow W1.heap.size 3 1 u8 (vL f t k).length (cellL (natL (vL f t k))) by rw [HLN.out]; exact HO.out)
      obtain ⟨sb, sc, hse⟩ : ∃ sb sc, u8 = .slice (some ⟨sb, 0, none⟩) k sc := by
        rcases HO.out.2 with ⟨_, h0⟩ | ⟨g, cap, cur, hv, _⟩
        · omega
        · exact ⟨g, cap, hv⟩
      have hrow : RowAt wr sb 0 k (fun i => (((vL f t k).getD i 0 : Nat) : Int)) := by
        rcases hst with ⟨_, _, _, h0⟩ | ⟨b, o, c, h1, _, h2⟩
        · rw [HLN.out] at h0; omega
        · rw [hse, HLN.out] at h1
          rw [HLN.out] at h2
          simp only [Value.slice.injEq, Option.some.injEq, Addr.mk.injEq, and_true, true_and] at h1
          obtain ⟨⟨rfl, rfl⟩, _⟩ := h1
          exact h2
      subst hse
      have HROW := Hid.mk' hrow
      obtain ⟨q0, q1⟩ := HC.out wr HB.out
      clear hst hrow HO
      go_wp2_with fail
      refine (HWT.out wr HB.out).mono ?_
      clear q0 q1
      rintro e w3 ⟨cv, rfl, hcv, hb3⟩
      have HB3 := Hid.mk' (below_chain HB.out hb3)
      have HCV := Hid.mk' hcv
      have HR3 := Hid.mk' (HROW.out.later hb3)
      clear hcv hb3
      go_wp2_with fail
      refine (HOF.out cv sb sc w3 HCV.out HR3.out).mono ?_
      rintro e w4 ⟨g, rb, cp, fv, cl, cc, rfl, hF, hr4⟩
      have HF := Hid.mk' (And.intro hF hr4)
      clear hF hr4
      go_wp2_with fail
      refine (HAH.out w3 w4 g cl cc rb cp fv HF.out.1 HF.out.2).mono ?_
      rintro e w5 ⟨r, d, rfl, hn, hd, hb5⟩
      have HR := Hid.mk' (And.intro hn (And.intro hd hb5))
      clear hn hd hb5
      go_wp2_with fail
      go_ret2
      exact ⟨_, _, rfl, HR.out.1, HR.out.2.1, below_chain HEND.out (below_chain (below_chain HB3.out HF.out.1.below) HR.out.2.2)⟩
end Go.Proofs.YtlnhpkmcinohdaaDoor

/- Messages: which are right, in the program and in the document; errors with their places. -/
namespace Go.Proofs.YtlnhpkmcinohdaaDoor
open Go.RowKit

set_option maxRecDepth 100000 in
theorem Total_nums (b o cap n : Nat) (z : Nat → Int) (w : World) (h : RowAt w b o n z) (hz : ∀ k, k ≤ n → -1000000 ≤ sumN z k ∧ sumN z k ≤ 1000000) (hzi : ∀ i, i < n → -1000000 ≤ z i ∧ z i ≤ 1000000) (hn : n ≤ 1000000) :
    Calls Tryd.prog 69 #[.slice (some ⟨b, o, none⟩) n cap] w fun e w' => e = .returned (.int .i64 (sumN z n)) ∧ w' = w := by
  have HR := Hid.mk' h
  have HZ := Hid.mk' hz
  have HZI := Hid.mk' hzi
  clear h hz hzi
  go_enter Tryd.func69, Tryd.ntmps69
  go_wp2_with fail
  go_loopw [3, 8] (fun s i wr => ∃ k : Nat, k ≤ n ∧ s = .int .i64 (sumN z k) ∧ i = .int .i64 k ∧ wr = w) (fun _ i _ => n - (intOf i).toNat)
  case atStart => exact ⟨0, Nat.zero_le _, rfl, rfl, rfl⟩
  case round =>
    obtain ⟨k, hk, rfl, rfl, rfl⟩ := hrel
    rcases Nat.lt_or_ge k n with h1 | h1
    · have hc := HR.out k h1
      have hs1 := HZ.out k hk
      have hs2 := HZ.out (k + 1) h1
      have hs3 := HZI.out k h1
      have HE : Hid (sumN z (k + 1) = sumN z k + z k) := rfl
      have hkn : (k : Int) < (n : Int) := by omega
      obtain ⟨x, hx⟩ : ∃ x, x = z k := ⟨_, rfl⟩
      rw [← hx] at hc hs3 HE
      obtain ⟨s, hs⟩ : ∃ s, s = sumN z k := ⟨_, rfl⟩
      rw [← hs] at hs1 HE ⊢
      clear hx hs
      go_wp2_with fail
      exact ⟨⟨k + 1, h1, by rw [HE.out], by go_num, trivial⟩, by simp [intOf]; omega⟩
    · obtain rfl : k = n := by omega
      go_wp2_with fail
      go_ret
      exact ⟨rfl, rfl⟩

/-- The first one of n of which something holds; n, if there is none. -/
def fstB (p : Nat → Bool) : Nat → Nat
  | 0 => 0
  | n + 1 => if fstB p n < n then fstB p n else if p n then n else n + 1
theorem fstB_le (p : Nat → Bool) : ∀ n, fstB p n ≤ n
  | 0 => Nat.le_refl _
  | n + 1 => by
    have := fstB_le p n
    unfold fstB
    split
    · omega
    · split <;> omega
theorem fstB_none {p : Nat → Bool} : ∀ {n : Nat}, fstB p n = n → ∀ i, i < n → p i = false
  | 0, _, i, hi => by omega
  | n + 1, h, i, hi => by
    unfold fstB at h
    have hle := fstB_le p n
    by_cases h1 : fstB p n < n
    · rw [if_pos h1] at h; omega
    · rw [if_neg h1] at h
      cases hp : p n with
      | true => rw [hp] at h; simp at h
      | false =>
        rcases Nat.lt_or_ge i n with h2 | h2
        · exact fstB_none (by omega) i h2
        · obtain rfl : i = n := by omega
          exact hp
theorem fstB_all {p : Nat → Bool} : ∀ {n : Nat}, (∀ i, i < n → p i = false) → fstB p n = n
  | 0, _ => rfl
  | n + 1, h => by
    unfold fstB
    rw [fstB_all (fun i hi => h i (by omega)), if_neg (Nat.lt_irrefl _), h n (by omega)]
    rfl
theorem fstB_at {p : Nat → Bool} {k : Nat} (h0 : ∀ i, i < k → p i = false) (h1 : p k = true) : ∀ {n : Nat}, k < n → fstB p n = k
  | 0, h => by omega
  | n + 1, h => by
    unfold fstB
    rcases Nat.lt_or_ge k n with h2 | h2
    · rw [fstB_at h0 h1 h2, if_pos h2]
    · obtain rfl : k = n := by omega
      rw [fstB_all h0, if_neg (Nat.lt_irrefl _), h1, if_pos rfl]
theorem fstB_is {p : Nat → Bool} : ∀ {n : Nat}, fstB p n < n → p (fstB p n) = true ∧ ∀ i, i < fstB p n → p i = false
  | 0, h => by omega
  | n + 1, h => by
    have hle := fstB_le p n
    by_cases h1 : fstB p n < n
    · have e : fstB p (n + 1) = fstB p n := by
        show (if fstB p n < n then fstB p n else if p n then n else n + 1) = _
        rw [if_pos h1]
      rw [e]; exact fstB_is h1
    · have h2 : fstB p n = n := by omega
      have e : fstB p (n + 1) = if p n then n else n + 1 := by
        show (if fstB p n < n then fstB p n else if p n then n else n + 1) = _
        rw [if_neg h1]
      rw [e] at h ⊢
      cases hp : p n with
      | false => rw [hp] at h; simp at h
      | true =>
        rw [if_pos rfl]
        exact ⟨hp, fstB_none h2⟩

/-- A symbol that is none; one whose weight is 0. -/
def badS (n : Nat) (l : Nat → Int) (i : Nat) : Bool := decide (l i < 0 ∨ (n : Int) ≤ l i)
def zerS (z : Nat → Int) (l : Nat → Int) (i : Nat) : Bool := decide (z (l i).toNat = 0)
/-- The number of a message's error, and its place. -/
def msgE (z : Nat → Int) (n m : Nat) (l : Nat → Int) : Nat × Int :=
  if 200 < m then (2, -1) else if fstB (badS n l) m < m then (3, (fstB (badS n l) m : Int)) else if fstB (zerS z l) m < m then (4, (fstB (zerS z l) m : Int)) else (0, -1)
def mesE (z : Nat → Int) (n m : Nat) (l : Nat → Int) : Nat × Int := if weightsErr z n = 0 then msgE z n m l else (weightsErr z n, -1)
/-- An error by its number and place, in memory. -/
def ErrIs (a : Nat → Addr) (w : World) (v : Value) (c : Nat × Int) : Prop :=
  (v = errV a c.1 ∧ c.2 = -1 ∧ c.1 ≤ 8) ∨ ∃ pb, v = .iface 72 (.pointer (some ⟨pb, 0, none⟩)) ∧ w.cell? ⟨pb, 0, none⟩ = some (.int .i64 c.2) ∧ w.cell? ⟨pb, 1, none⟩ = some (.iface 143 (.pointer (some (a (c.1 - 1))))) ∧ 1 ≤ c.1 ∧ c.1 ≤ 8
theorem ErrIs.later {a : Nat → Addr} {w w' : World} {v : Value} {c : Nat × Int} (h : ErrIs a w v c) (hb : Below w.heap.size w w') : ErrIs a w' v c := by
  rcases h with h | ⟨pb, h1, h2, h3, h4⟩
  · exact Or.inl h
  · exact Or.inr ⟨pb, h1, by rw [hb.cell (cell_lt h2)]; exact h2, by rw [hb.cell (cell_lt h3)]; exact h3, h4⟩

theorem NumsAt.cellAt {w : World} {v : Value} {n : Nat} {z : Nat → Int} (h : NumsAt w v n z) (h0 : 0 < n) : ∃ b o cap, v = .slice (some ⟨b, o, none⟩) n cap ∧ RowAt w b o n z := by
  rcases h with ⟨_, _, _, rfl⟩ | ⟨b, o, cap, h1, _, h2⟩
  · omega
  · exact ⟨b, o, cap, h1, h2⟩
/-- A list whose length and row are known (nothing is said of the place of an empty one). -/
theorem NumsAt.rowAt {w : World} {v : Value} {n : Nat} {z : Nat → Int} (h : NumsAt w v n z) : ∃ ad cap, v = .slice ad n cap ∧ ∀ i, i < n → ∃ b o, ad = some ⟨b, o, none⟩ ∧ w.cell? ⟨b, o + i, none⟩ = some (.int .i64 (z i)) := by
  rcases h with ⟨ad, cap, rfl, rfl⟩ | ⟨b, o, cap, rfl, _, h2⟩
  · exact ⟨ad, cap, rfl, fun i hi => by omega⟩
  · exact ⟨_, cap, rfl, fun i hi => ⟨b, o, rfl, h2 i hi⟩⟩

end Go.Proofs.YtlnhpkmcinohdaaDoor

/- The interval that a message leaves: arith.cut. -/
namespace Go.Proofs.YtlnhpkmcinohdaaDoor
open Go.RowKit

theorem put_three' {W : World} {b : Nat} {x0 x1 x2 : Value} (y0 y1 y2 : Value) (h0 : W.cell? ⟨b, 0, none⟩ = some x0) (h1 : W.cell? ⟨b, 1, none⟩ = some x1) (h2 : W.cell? ⟨b, 2, none⟩ = some x2) :
    ((W.setCell ⟨b, 0, none⟩ y0).cell? ⟨b, 1, none⟩ = some x1 ∧ ((W.setCell ⟨b, 0, none⟩ y0).setCell ⟨b, 1, none⟩ y1).cell? ⟨b, 2, none⟩ = some x2) ∧
    ((((W.setCell ⟨b, 0, none⟩ y0).setCell ⟨b, 1, none⟩ y1).setCell ⟨b, 2, none⟩ y2).cell? ⟨b, 0, none⟩ = some y0 ∧ (((W.setCell ⟨b, 0, none⟩ y0).setCell ⟨b, 1, none⟩ y1).setCell ⟨b, 2, none⟩ y2).cell? ⟨b, 1, none⟩ = some y1) ∧
    (((W.setCell ⟨b, 0, none⟩ y0).setCell ⟨b, 1, none⟩ y1).setCell ⟨b, 2, none⟩ y2).cell? ⟨b, 2, none⟩ = some y2 := by
  have e1 : (W.setCell ⟨b, 0, none⟩ y0).cell? ⟨b, 1, none⟩ = some x1 := by rw [cell_put _ h0, if_neg (by simp)]; exact h1
  have e2 : ((W.setCell ⟨b, 0, none⟩ y0).setCell ⟨b, 1, none⟩ y1).cell? ⟨b, 2, none⟩ = some x2 := by rw [cell_put _ e1, if_neg (by simp), cell_put _ h0, if_neg (by simp)]; exact h2
  refine ⟨⟨e1, e2⟩, ⟨?_, ?_⟩, ?_⟩
  · rw [cell_put _ e2, if_neg (by simp), cell_put _ e1, if_neg (by simp), cell_put _ h0, if_pos rfl]
  · rw [cell_put _ e2, if_neg (by simp), cell_put _ e1, if_pos rfl]
  · rw [cell_put _ e2, if_pos rfl]
theorem NatAt.isSl {w : World} {v : Value} {n : Nat} (h : NatAt w v n) : ∃ a l c, v = .slice a l c := by
  obtain ⟨l, _, _, _, h⟩ := h
  obtain ⟨ad, cap, rfl⟩ := h.form
  exact ⟨_, _, _, rfl⟩
/-- A number's words are none of a cell that holds a list. -/
theorem NatAt.putL {W : World} {v y : Value} {n : Nat} {p : Addr} {ad : Option Addr} {l c : Nat} (h : NatAt W v n) (hc : W.cell? p = some (.slice ad l c)) : NatAt (W.setCell p y) v n := by
  obtain ⟨x, h1, h2, h3, h4⟩ := h
  refine ⟨x, h1, h2, h3, ?_⟩
  rcases h4 with h4 | ⟨b, o, cap, hv, hl, hp, hr⟩
  · exact Or.inl h4
  · refine Or.inr ⟨b, o, cap, hv, hl, hp, fun i hi => ?_⟩
    rw [cell_put _ hc, if_neg (fun e => ?_)]
    · exact hr i hi
    · have h5 := hr i hi
      rw [e, hc] at h5
      cases h5
theorem NatAt.putL3 {W : World} {v y0 y1 y2 : Value} {n b : Nat} {a0 a1 a2 : Option Addr} {l0 l1 l2 c0 c1 c2 : Nat} (h : NatAt W v n) (h0 : W.cell? ⟨b, 0, none⟩ = some (.slice a0 l0 c0)) (h1 : W.cell? ⟨b, 1, none⟩ = some (.slice a1 l1 c1)) (h2 : W.cell? ⟨b, 2, none⟩ = some (.slice a2 l2 c2)) : NatAt (((W.setCell ⟨b, 0, none⟩ y0).setCell ⟨b, 1, none⟩ y1).setCell ⟨b, 2, none⟩ y2) v n := by
  obtain ⟨⟨g0, g1⟩, _, _⟩ := put_three' y0 y1 y2 h0 h1 h2
  exact ((h.putL h0).putL g0).putL g1

set_option maxRecDepth 100000 in
theorem Times_zero (u : Value) (n : Nat) (w : World) (h : NatAt w u n) :
    Calls Tryd.prog 44 #[u, .int .u64 0] w fun e w' => ∃ v, e = .returned v ∧ NatAt w' v (n * 0) ∧ Below w.heap.size w w' := by
  obtain ⟨ad, l, cap, rfl⟩ := h.isSl
  clear h
  go_enter Tryd.func44, Tryd.ntmps44
  go_wp2_with fail
  go_ret
  exact ⟨_, rfl, ⟨[], fun i hi => by simp at hi, fun i hi => by simp at hi, by simp [wv], Or.inl ⟨_, _, rfl, rfl⟩⟩, Below.refl _ _⟩
theorem Times_all (u : Value) (n m k : Nat) (w : World) (h : NatAt w u n) (hm : m < 18446744073709551616) (hk : n < 18446744073709551616 ^ k) (hk6 : k ≤ 1000000) :
    Calls Tryd.prog 44 #[u, .int .u64 m] w fun e w' => ∃ v, e = .returned v ∧ NatAt w' v (n * m) ∧ Below w.heap.size w w' := by
  rcases Nat.eq_zero_or_pos m with rfl | hm0
  · exact Times_zero u n w h
  · exact Times_any u n m k w h hm0 hm hk hk6

/-- What a message leaves: where it begins and how wide it is, over the sum's power. -/
def cutW (z l : Nat → Int) : Nat → Nat
  | 0 => 1
  | k + 1 => cutW z l k * (z (l k).toNat).toNat
def cutL (z l : Nat → Int) (S : Nat) : Nat → Nat
  | 0 => 0
  | k + 1 => cutL z l S k * S + cutW z l k * (sumN z (l k).toNat).toNat
theorem cut_le {z l : Nat → Int} {n m S : Nat} (hz : OkW z n) (hS : sumN z n = (S : Int)) (hl : ∀ i, i < m → 0 ≤ l i ∧ l i < (n : Int)) : ∀ k, k ≤ m → cutL z l S k + cutW z l k ≤ S ^ k
  | 0, _ => by simp [cutL, cutW]
  | k + 1, hk => by
    have ih := cut_le hz hS hl k (by omega)
    obtain ⟨h0, h1⟩ := hl k (by omega)
    obtain ⟨s, hs⟩ : ∃ s : Nat, l k = (s : Int) := ⟨(l k).toNat, by omega⟩
    have hsn : s < n := by omega
    show cutL z l S k * S + cutW z l k * (sumN z (l k).toNat).toNat + cutW z l k * (z (l k).toNat).toNat ≤ S ^ (k + 1)
    rw [hs, Int.toNat_natCast]
    have hm := sumN_mono hz.nn (k := s + 1) hsn
    rw [hS] at hm
    have e : sumN z (s + 1) = sumN z s + z s := rfl
    have p1 := hz.part (k := s) (by omega)
    have p2 := hz.lt hsn
    have hle : (sumN z s).toNat + (z s).toNat ≤ S := by omega
    calc cutL z l S k * S + cutW z l k * (sumN z s).toNat + cutW z l k * (z s).toNat = cutL z l S k * S + cutW z l k * ((sumN z s).toNat + (z s).toNat) := by rw [Nat.mul_add, Nat.add_assoc]
      _ ≤ cutL z l S k * S + cutW z l k * S := Nat.add_le_add_left (Nat.mul_le_mul_left _ hle) _
      _ = (cutL z l S k + cutW z l k) * S := by rw [Nat.add_mul]
      _ ≤ S ^ k * S := Nat.mul_le_mul_right _ ih
      _ = S ^ (k + 1) := (Nat.pow_succ ..).symm
theorem cutW_pos {z l : Nat → Int} : ∀ {k : Nat}, (∀ i, i < k → 0 < z (l i).toNat) → 0 < cutW z l k
  | 0, _ => Nat.one_pos
  | k + 1, h => Nat.mul_pos (cutW_pos (fun i hi => h i (by omega))) (by have := h k (by omega); omega)
theorem pow_room {S j : Nat} (hS : S ≤ 4096) (hj : j ≤ 249) : S ^ j < 18446744073709551616 ^ 250 :=
  Nat.lt_of_le_of_lt (Nat.pow_le_pow_left (Nat.le_trans hS (by decide : 4096 ≤ 18446744073709551616)) j) (Nat.pow_lt_pow_right (by decide) (by omega))

/-- A span in memory. -/
structure SpanAt (w : World) (b : Nat) (u0 u1 u2 : Value) (x0 x1 x2 : Nat) : Prop where
  c0 : w.cell? ⟨b, 0, none⟩ = some u0
  c1 : w.cell? ⟨b, 1, none⟩ = some u1
  c2 : w.cell? ⟨b, 2, none⟩ = some u2
  n0 : NatAt w u0 x0
  n1 : NatAt w u1 x1
  n2 : NatAt w u2 x2
  fz : ∀ j, j < 3 → w.frozen? ⟨b, j, none⟩ = false

end Go.Proofs.YtlnhpkmcinohdaaDoor

/- walks.resistance, walks.Resistance: the program's. -/
namespace Go.Proofs.YtlnhpkmcinohdaaDoor
open Go.RowKit

/-- The current. -/
def curN (N : Nat) (L : List Wr) (f t : Nat) : Nat := sumTo (fun j => (volD N L f t - volN N L f t j) * (wtF L f j).toNat) N

set_option maxRecDepth 100000 in
set_option maxHeartbeats 8000000 in
theorem resistance_any (N f t : Nat) (v : Value) (L : List Wr) (w : World) (h : WrAt w v L) (hl : L.length ≤ 20) (hN : N ≤ 8) (hs : wiresB (N : Int) L = true) (hft : f ≠ t) (hf : f < N) (ht : t < N) :
    Calls Tryd.prog 31 #[.agg #[.int .i64 N, v], .int .i64 f, .int .i64 t] w fun e w' => ∃ r d, e = .returned (.tuple #[r, d]) ∧ NatAt w' r (volD N L f t) ∧ NatAt w' d (curN N L f t) ∧ Below w.heap.size w w' := by
  have h2 : 2 ≤ N := by omega
  have hDL := (volD_lt (L := L) hN h2 hft hf ht hs hl).2
  have hle := fun s => vol_le (L := L) (f := f) (t := t) h2 s
  obtain ⟨ad, cap, rfl⟩ := h.form
  obtain ⟨W1, hW1⟩ : ∃ W1, W1 = w.alloc (.cells #[.int .i64 N, .slice ad L.length cap] 34) := ⟨_, rfl⟩
  obtain ⟨bx, hbx⟩ : ∃ bx, bx = w.heap.size := ⟨_, rfl⟩
  have hb1 : Below w.heap.size w W1 := by rw [hW1]; exact (Below.refl _ _).alloc (Nat.le_refl _) _
  have q0 : W1.cell? ⟨bx, 0, none⟩ = some (.int .i64 N) := by rw [hW1, hbx]; go_simp
  have q1 : W1.cell? ⟨bx, 1, none⟩ = some (.slice ad L.length cap) := by rw [hW1, hbx]; go_simp
  have HC : Hid (∀ W, Below W1.heap.size W1 W → W.cell? ⟨bx, 0, none⟩ = some (.int .i64 N) ∧ W.cell? ⟨bx, 1, none⟩ = some (.slice ad L.length cap)) := fun W hb => ⟨by rw [hb.cell (cell_lt q0)]; exact q0, by rw [hb.cell (cell_lt q1)]; exact q1⟩
  have HWT := Hid.mk' (fun (W : World) (hb : Below W1.heap.size W1 W) => weights_any N (.slice ad L.length cap) L W ((h.later hb1).later hb) hl hN hs)
  have HVO := Hid.mk' (voltages_any N f t (.slice ad L.length cap) L W1 (h.later hb1) hl hN hs hft hf ht)
  have HEND := Hid.mk' hb1
  have HWR := Hid.mk' (fun (i : Nat) => wtF_range (wires_c hs) f i)
  have HCUR : Hid (curN N L f t = sumTo (fun j => (volD N L f t - volN N L f t j) * (wtF L f j).toNat) N) := rfl
  obtain ⟨D, hD⟩ : ∃ D, D = volD N L f t := ⟨_, rfl⟩
  obtain ⟨z, hz⟩ : ∃ z, z = volN N L f t := ⟨_, rfl⟩
  rw [← hD] at HVO HCUR hDL hle ⊢
  rw [← hz] at HVO HCUR hle
  have HDL := Hid.mk' hDL
  have HLE := Hid.mk' hle
  clear h hs hb1 hD hz hDL hle
  go_enter Tryd.func31, Tryd.ntmps31
  go_upto_region 1 with fail
  rw [← hW1, ← hbx]
  clear hW1 hbx
  go_wp2_with fail
  refine HVO.out.mono ?_
  clear q0 q1
  rintro e w2 ⟨lv, dv, rfl, hlv, hdv, hb2⟩
  obtain ⟨lg, lf, hlve, hlc⟩ := hlv
  subst hlve
  have HB2 := Hid.mk' hb2
  have HLC := Hid.mk' hlc
  have HDV := Hid.mk' hdv
  have hz0 := NatOf_zero w2
  clear hlc hdv hb2
  go_wp2_with fail
  refine hz0.mono ?_
  clear hz0
  rintro e w3 ⟨rfl, hw3⟩
  rw [hw3]
  clear hw3
  obtain ⟨q0, q1⟩ := HC.out w2 HB2.out
  go_wp2_with fail
  refine (HWT.out w2 HB2.out).mono ?_
  clear q0 q1
  rintro e w4 ⟨cv, rfl, hcv, hb4⟩
  obtain ⟨cb, co, cc, rfl, hrows⟩ := hcv
  obtain ⟨b1, o1, c1, y1, y2⟩ := hrows f hf
  have HB4 := Hid.mk' hb4
  have HY2 := Hid.mk' y2
  have hfI : (f : Int) < (N : Int) := by omega
  have hf0 : (0 : Int) ≤ (f : Int) := by omega
  clear hrows y2 hb4
  go_wp2_with fail
  clear y1
  go_loopw [10, 27] (fun s i wr => ∃ k : Nat, k ≤ N ∧ i = .int .i64 k ∧ Hid (NatAt wr s (sumTo (fun j => (D - z j) * (wtF L f j).toNat) k)) ∧ Hid (Below w4.heap.size w4 wr)) (fun _ i _ => N - (intOf i).toNat)
  case atStart => exact ⟨0, Nat.zero_le _, rfl, natAt_none _, Below.refl _ _⟩
  case round =>
    obtain ⟨k, hk, rfl, HS, HB⟩ := hrel
    have hk0 : (0 : Int) ≤ (k : Int) := by omega
    rcases Nat.lt_or_ge k N with h1 | h1
    · have hkI : (k : Int) < (N : Int) := by omega
      have y0 : wr.cell? ⟨b1, o1 + k, none⟩ = some (.int .i64 (wtF L f k)) := by rw [HB.out.cell (cell_lt (HY2.out k h1))]; exact HY2.out k h1
      obtain ⟨y1, hn1⟩ := HLC.out k h1
      have y1' : wr.cell? ⟨lg, k, none⟩ = some (lf k) := by rw [(below_chain HB4.out HB.out).cell (cell_lt y1)]; exact y1
      have HN1 := Hid.mk' (hn1.later (below_chain HB4.out HB.out))
      have HD1 := Hid.mk' (HDV.out.later (below_chain HB4.out HB.out))
      obtain ⟨c, hc⟩ : ∃ c : Nat, wtF L f k = (c : Int) := ⟨(wtF L f k).toNat, by have := HWR.out k; omega⟩
      have hwr := HWR.out k
      rw [hc] at y0 hwr
      have hcb : c ≤ 20000 := by omega
      have hxw : IntKind.u64.wrap (c : Int) = (c : Int) := by rw [IntKind.wrap_u64]; omega
      have HSN : Hid (sumTo (fun j => (D - z j) * (wtF L f j).toNat) (k + 1) = sumTo (fun j => (D - z j) * (wtF L f j).toNat) k + (D - z k) * c) := by show sumTo _ k + (D - z k) * (wtF L f k).toNat = _; rw [hc]; rfl
      have hzk := HLE.out k
      have HPB : Hid (D - z k < 18446744073709551616 ^ 253 ∧ (D - z k) * c < 18446744073709551616 ^ 255) := by
        have e1 : D - z k < 18446744073709551616 ^ 253 := Nat.lt_of_le_of_lt (Nat.sub_le _ _) HDL.out
        refine ⟨e1, ?_⟩
        have e2 : (18446744073709551616 : Nat) ^ 255 = 18446744073709551616 ^ 253 * 18446744073709551616 ^ 2 := by rw [← Nat.pow_add]
        rw [e2]
        exact Nat.mul_lt_mul'' e1 (Nat.lt_of_le_of_lt hcb (by decide))
      have HSB : Hid (sumTo (fun j => (D - z j) * (wtF L f j).toNat) k < 18446744073709551616 ^ 256) := by
        rcases sumTo_lt (z := fun j => (D - z j) * (wtF L f j).toNat) (M := 18446744073709551616 ^ 255) (n := k) (by omega) (fun j hj => by
          have e2 : (18446744073709551616 : Nat) ^ 255 = 18446744073709551616 ^ 253 * 18446744073709551616 ^ 2 := by rw [← Nat.pow_add]
          rw [e2]
          exact Nat.mul_lt_mul'' (Nat.lt_of_le_of_lt (Nat.sub_le _ _) HDL.out) (Nat.lt_of_le_of_lt (show (wtF L f j).toNat ≤ 20000 by have := HWR.out j; omega) (by decide))) with h | h
        · show _ < _; rw [show 256 = 255 + 1 from rfl, Nat.pow_succ]; exact h
        · exact absurd h (Nat.ne_of_gt (Nat.pow_pos (by decide)))
      have hmi := Minus_any dv (lf k) D (z k) 253 wr HD1.out HN1.out hzk HDL.out (by decide)
      clear hn1 y1 hc hzk
      go_wp2_with fail
      refine hmi.mono ?_
      clear hmi y0 y1'
      rintro e w5 ⟨r5, rfl, hr5, hb5⟩
      have hti := Times_all r5 (D - z k) c 253 w5 hr5 (by omega) HPB.out.1 (by decide)
      have HB5 := Hid.mk' (below_chain HB.out hb5)
      have HS5 := Hid.mk' (HS.out.later hb5)
      clear hr5 hb5
      go_wp2_with fail
      refine hti.mono ?_
      clear hti
      rintro e w6 ⟨r6, rfl, hr6, hb6⟩
      have hpl := Plus_any u10 r6 _ _ 256 w6 (HS5.out.later hb6) hr6 HSB.out (Nat.lt_of_lt_of_le HPB.out.2 (Nat.pow_le_pow_right (by decide) (by decide))) (by decide)
      rw [← HSN.out] at hpl
      have HB6 := Hid.mk' (below_chain HB5.out hb6)
      clear hr6 hb6
      go_wp2_with fail
      refine hpl.mono ?_
      clear hpl
      rintro e w7 ⟨r7, rfl, hr7, hb7⟩
      have HR7 := Hid.mk' hr7
      have HB7 := Hid.mk' (below_chain HB6.out hb7)
      clear hr7 hb7
      go_wp2_with fail
      exact ⟨⟨k + 1, h1, by go_num, HR7.out, HB7.out⟩, by simp [intOf]; omega⟩
    · obtain rfl : k = N := by omega
      go_wp2_with fail
      go_ret2
      refine ⟨_, _, rfl, HDV.out.later (below_chain HB4.out HB.out), ?_, below_chain HEND.out (below_chain HB2.out (below_chain HB4.out HB.out))⟩
      rw [HCUR.out]; exact HS.out
end Go.Proofs.YtlnhpkmcinohdaaDoor

/- walks.Resistance of a right network; the closed fact at the head of all Walks laws. -/
namespace Go.Proofs.YtlnhpkmcinohdaaDoor
open Go.RowKit

theorem toldV_forms (a : Nat → Addr) (N D : Nat) : ∃ (p q : Int) (e : Value), toldV a N D = .tuple #[.agg #[.int .i64 p, .int .i64 q], e] ∧ (e = .nilIface ∨ e = .iface 143 (.pointer (some (a 1)))) := by
  unfold toldV
  split
  · exact ⟨_, _, _, rfl, Or.inl rfl⟩
  · exact ⟨_, _, _, rfl, Or.inr rfl⟩
theorem paE_ok {N : Int} {L : List Wr} {x y : Int} (h : paE N L x y = 0) : 1 ≤ N ∧ N ≤ 8 ∧ L.length ≤ 20 ∧ wiresB N L = true ∧ joinV L.length N L = true ∧ 0 ≤ x ∧ x < N ∧ 0 ≤ y ∧ y < N ∧ x ≠ y := by
  unfold paE at h
  split at h
  · rename_i h1
    obtain ⟨k1, k2, k3, k4, k5⟩ := nwE_ok h1
    split at h
    · rename_i h2
      obtain ⟨j1, j2, j3, j4, j5⟩ := twoB_parts h2
      exact ⟨k1, k2, k3, k4, k5, j1, j2, j3, j4, j5⟩
    · cases h
  · rename_i h1; exact absurd h h1

set_option maxRecDepth 100000 in
set_option maxHeartbeats 4000000 in
theorem Resistance_ok (a : Nat → Addr) (N f t : Nat) (v : Value) (L : List Wr) (w : World) (hE : Errs w a) (h : WrAt w v L) (hp : paE N L f t = 0) (hcur : 0 < curN N L f t) :
    Calls Tryd.prog 19 #[.agg #[.int .i64 N, v], .int .i64 f, .int .i64 t] w fun e w' => e = .returned (toldV a (volD N L f t) (curN N L f t)) ∧ Below w.heap.size w w' := by
  obtain ⟨k1, k2, hl, hs, _, j1, j2, j3, j4, j5⟩ := paE_ok hp
  have hN : N ≤ 8 := by omega
  have hf : f < N := by omega
  have ht : t < N := by omega
  have hft : f ≠ t := by omega
  have h2 : 2 ≤ N := by omega
  have hDL := (volD_lt (L := L) hN h2 hft hf ht hs hl).2
  have hCL : curN N L f t < 18446744073709551616 ^ 256 := by
    rcases sumTo_lt (z := fun j => (volD N L f t - volN N L f t j) * (wtF L f j).toNat) (M := 18446744073709551616 ^ 255) (n := N) hN (fun j hj => by
      have e2 : (18446744073709551616 : Nat) ^ 255 = 18446744073709551616 ^ 253 * 18446744073709551616 ^ 2 := by rw [← Nat.pow_add]
      rw [e2]
      exact Nat.mul_lt_mul'' (Nat.lt_of_le_of_lt (Nat.sub_le _ _) hDL) (Nat.lt_of_le_of_lt (show (wtF L f j).toNat ≤ 20000 by have := wtF_range (wires_c hs) f j; omega) (by decide))) with h | h
    · show sumTo _ N < _; rw [show 256 = 255 + 1 from rfl, Nat.pow_succ]; exact h
    · exact absurd h (Nat.ne_of_gt (Nat.pow_pos (by decide)))
  obtain ⟨ad, cap, rfl⟩ := h.form
  obtain ⟨W2, hW2⟩ : ∃ W2, W2 = (w.alloc (.cells #[.int .i64 N, .slice ad L.length cap] 34)).alloc (.cells #[.int .i64 0, .int .i64 0] 52) := ⟨_, rfl⟩
  have hb2 : Below w.heap.size w W2 := by rw [hW2]; exact ((Below.refl _ _).alloc (Nat.le_refl _) _).alloc (by simp) _
  have q0 : W2.cell? ⟨w.heap.size, 0, none⟩ = some (.int .i64 N) := by rw [hW2]; go_simp
  have q1 : W2.cell? ⟨w.heap.size, 1, none⟩ = some (.slice ad L.length cap) := by rw [hW2]; go_simp
  have r0 : W2.cell? ⟨w.heap.size + 1, 0, none⟩ = some (.int .i64 0) := by rw [hW2]; go_simp
  have r1 : W2.cell? ⟨w.heap.size + 1, 1, none⟩ = some (.int .i64 0) := by rw [hW2]; go_simp
  have z0 : W2.frozen? ⟨w.heap.size + 1, 0, none⟩ = false := by rw [hW2]; go_simp
  have z1 : W2.frozen? ⟨w.heap.size + 1, 1, none⟩ = false := by rw [hW2]; go_simp
  have HQ := Hid.mk' (fun (W : World) (hb : Below W2.heap.size W2 W) => (⟨by rw [hb.cell (cell_lt q0)]; exact q0, by rw [hb.cell (cell_lt q1)]; exact q1⟩ : W.cell? ⟨w.heap.size, 0, none⟩ = some (.int .i64 N) ∧ W.cell? ⟨w.heap.size, 1, none⟩ = some (.slice ad L.length cap)))
  have HR := Hid.mk' (fun (W : World) (hb : Below W2.heap.size W2 W) => (⟨by rw [hb.cell (cell_lt r0)]; exact r0, by rw [hb.cell (cell_lt r1)]; exact r1, by rw [hb.frozen (cell_lt r0)]; exact z0, by rw [hb.frozen (cell_lt r1)]; exact z1⟩ : W.cell? ⟨w.heap.size + 1, 0, none⟩ = some (.int .i64 0) ∧ W.cell? ⟨w.heap.size + 1, 1, none⟩ = some (.int .i64 0) ∧ W.frozen? ⟨w.heap.size + 1, 0, none⟩ = false ∧ W.frozen? ⟨w.heap.size + 1, 1, none⟩ = false))
  have hpe := npError_any a N f t (.slice ad L.length cap) L W2 (hE.below hb2) (h.later hb2) (by omega)
  rw [hp] at hpe
  have HPE := Hid.mk' hpe
  have HRS := Hid.mk' (fun (W : World) (hb : Below W2.heap.size W2 W) => resistance_any N f t (.slice ad L.length cap) L W ((h.later hb2).later hb) hl hN hs hft hf ht)
  have HTO := Hid.mk' (fun (W : World) (u1 u2 : Value) (hb : Below W2.heap.size W2 W) (n1 : NatAt W u1 (volD N L f t)) (n2 : NatAt W u2 (curN N L f t)) => Told_any a u1 u2 _ _ 256 W ((hE.below hb2).below hb) n1 n2 hcur (Nat.lt_of_lt_of_le hDL (Nat.pow_le_pow_right (by decide) (by decide))) hCL (by decide))
  have HB2 := Hid.mk' hb2
  have HV0 : Hid (errV a 0 = .nilIface) := rfl
  obtain ⟨p, q, ev, htv, hev⟩ := toldV_forms a (volD N L f t) (curN N L f t)
  rw [htv] at HTO ⊢
  have HEV := Hid.mk' hev
  clear hE h hp hcur k1 k2 hs hl j1 j2 j3 j4 j5 hDL hCL hb2 r0 r1 z0 z1 hpe htv hev
  go_enter Tryd.func19, Tryd.ntmps19
  go_upto_region 1 with fail
  rw [← hW2]
  clear hW2
  go_wp2_with fail
  refine HPE.out.mono ?_
  clear q0 q1
  rintro e w3 ⟨rfl, hb3⟩
  have HB3 := Hid.mk' hb3
  obtain ⟨q0, q1⟩ := HQ.out w3 hb3
  rw [HV0.out]
  clear hb3
  go_wp2_with fail
  refine (HRS.out w3 HB3.out).mono ?_
  clear q0 q1
  rintro e w4 ⟨u1, u2, rfl, n1, n2, hb4⟩
  have HB4 := Hid.mk' (below_chain HB3.out hb4)
  have HT := Hid.mk' (HTO.out w4 u1 u2 HB4.out n1 n2)
  clear n1 n2 hb4
  go_wp2_with fail
  refine HT.out.mono ?_
  rintro e w5 ⟨rfl, hb5⟩
  have HB5 := Hid.mk' (below_chain HB4.out hb5)
  obtain ⟨r0, r1, z0, z1⟩ := HR.out w5 HB5.out
  have r1' : (w5.setCell ⟨w.heap.size + 1, 0, none⟩ (.int .i64 p)).cell? ⟨w.heap.size + 1, 1, none⟩ = some (.int .i64 0) := by rw [World.cell?_setCell_other _ _ _ _ (by simp)]; exact r1
  have HQQ : Hid (((w5.setCell ⟨w.heap.size + 1, 0, none⟩ (.int .i64 p)).setCell ⟨w.heap.size + 1, 1, none⟩ (.int .i64 q)).cell? ⟨w.heap.size + 1, 0, none⟩ = some (.int .i64 p) ∧ ((w5.setCell ⟨w.heap.size + 1, 0, none⟩ (.int .i64 p)).setCell ⟨w.heap.size + 1, 1, none⟩ (.int .i64 q)).cell? ⟨w.heap.size + 1, 1, none⟩ = some (.int .i64 q)) := ⟨by rw [World.cell?_setCell_other _ _ _ _ (by simp), World.cell?_setCell_same _ _ _ r0], by rw [World.cell?_setCell_same _ _ _ r1']⟩
  have HBF := Hid.mk' (((below_chain HB2.out HB5.out).setCell (show w.heap.size ≤ w.heap.size + 1 by omega) (p := ⟨w.heap.size + 1, 0, none⟩) (.int .i64 p)).setCell (show w.heap.size ≤ w.heap.size + 1 by omega) (p := ⟨w.heap.size + 1, 1, none⟩) (.int .i64 q))
  clear hb5
  rcases HEV.out with he | he
  · subst he
    go_wp2_with fail
    exact bodyPost_ret (v := .tuple #[.agg #[.int .i64 p, .int .i64 q], .nilIface]) (by simp [results, Tryd.results19, go_sem, HQQ.out.1, HQQ.out.2]) rfl ⟨rfl, HBF.out⟩
  · subst he
    go_wp2_with fail
    exact bodyPost_ret (v := .tuple #[.agg #[.int .i64 p, .int .i64 q], .iface 143 (.pointer (some (a 1)))]) (by simp [results, Tryd.results19, go_sem, HQQ.out.1, HQQ.out.2]) rfl ⟨rfl, HBF.out⟩

/-- Two wires, one behind the other. -/
def ohmL : List Wr := [⟨0, 1, 1⟩, ⟨1, 2, 2⟩]
theorem ohm_pa : paE (3 : Nat) ohmL (0 : Nat) (2 : Nat) = 0 := by decide +kernel
theorem ohm_vol : volD 3 ohmL 0 2 = 3 := by decide +kernel
theorem ohm_cur : curN 3 ohmL 0 2 = 2 := by decide +kernel
theorem ohm_told (a : Nat → Addr) : toldV a 3 2 = .tuple #[.agg #[.int .i64 3, .int .i64 2], .nilIface] := by
  unfold toldV
  rw [if_pos (by decide)]
  rfl
set_option maxRecDepth 100000 in
set_option maxHeartbeats 4000000 in
theorem ohm_any (a : Nat → Addr) (w : World) (hE : Errs w a) :
    Calls Tryd.prog 5 #[] w fun e w' => e = .returned (.bool true) ∧ Below w.heap.size w w' := by
  obtain ⟨W1, hW1⟩ : ∃ W1, W1 = w.alloc (.cells #[.int .i64 0, .int .i64 1, .int .i64 1, .int .i64 1, .int .i64 2, .int .i64 2] 47) := ⟨_, rfl⟩
  have hb1 : Below w.heap.size w W1 := by rw [hW1]; exact (Below.refl _ _).alloc (Nat.le_refl _) _
  have hwr : WrAt W1 (.slice (some ⟨w.heap.size, 0, none⟩) 2 2) ohmL := by
    refine ⟨some ⟨w.heap.size, 0, none⟩, 2, rfl, fun i x hx => ⟨w.heap.size, 0, rfl, ?_⟩⟩
    rw [hW1]
    rcases i with _ | _ | i
    · obtain rfl : (⟨0, 1, 1⟩ : Wr) = x := by simpa [ohmL] using hx
      refine ⟨?_, ?_, ?_⟩ <;> go_simp
    · obtain rfl : (⟨1, 2, 2⟩ : Wr) = x := by simpa [ohmL] using hx
      refine ⟨?_, ?_, ?_⟩ <;> go_simp
    · simp [ohmL] at hx
  have hres := Resistance_ok a 3 0 2 _ ohmL W1 (hE.below hb1) hwr ohm_pa (by rw [ohm_cur]; decide)
  rw [ohm_vol, ohm_cur, ohm_told] at hres
  have HRES : Hid (Calls Tryd.prog 19 #[.agg #[.int .i64 3, .slice (some ⟨w.heap.size, 0, none⟩) 2 2], .int .i64 0, .int .i64 2] W1 fun e w' => e = .returned (.tuple #[.agg #[.int .i64 3, .int .i64 2], .nilIface]) ∧ Below W1.heap.size W1 w') := hres
  have HB1 := Hid.mk' hb1
  have HW1 := Hid.mk' hW1
  clear hE hwr hres hb1 hW1
  go_enter Tryd.func5, Tryd.ntmps5
  go_wp2_with fail
  rw [← HW1.out]
  refine HRES.out.mono ?_
  rintro e w2 ⟨rfl, hb2⟩
  have HB2 := Hid.mk' (below_chain HB1.out hb2)
  have HBA : Hid (Below w.heap.size w (w2.alloc (.cells #[.int .i64 3, .int .i64 2] 52))) := HB2.out.alloc HB2.out.size _
  clear hb2
  go_wp2_with fail
  go_ret
  exact ⟨rfl, HBA.out⟩
end Go.Proofs.YtlnhpkmcinohdaaDoor

/- A network is joined when one vertex is left, if both ends of each wire become one. -/
namespace Go.Proofs.YtlnhpkmcinohdaaDoor
open Go.RowKit

/-- All vertices are joined to the first. -/
def Conn (N : Int) (l : List Wr) : Prop := ∀ S : Int → Prop, S 0 → (∀ x, x ∈ l → (S x.a ↔ S x.b)) → ∀ v, 0 ≤ v → v < N → S v
def InR (N : Int) (l : List Wr) : Prop := ∀ x, x ∈ l → 0 ≤ x.a ∧ x.a < N ∧ 0 ≤ x.b ∧ x.b < N ∧ x.a ≠ x.b
theorem shortL_in {lo hi : Int} : ∀ {l : List Wr} {x : Wr}, x ∈ l → numV lo hi x.a ≠ numV lo hi x.b → (⟨numV lo hi x.a, numV lo hi x.b, x.c⟩ : Wr) ∈ shortL lo hi l
  | y :: l, x, hx, h => by
    unfold shortL
    rcases List.mem_cons.1 hx with rfl | hx
    · rw [if_neg h]; simp
    · split
      · exact shortL_in hx h
      · exact List.mem_cons_of_mem _ (shortL_in hx h)
theorem numV_lt {N lo hi v : Int} (hv : 0 ≤ v ∧ v < N) (hl : 0 ≤ lo) (hlh : lo < hi) (hh : hi < N) : 0 ≤ numV lo hi v ∧ numV lo hi v < N - 1 := by
  unfold numV
  split
  · omega
  · split <;> omega
theorem stepL_in {N : Int} {x : Wr} {l : List Wr} (h : InR N (x :: l)) : InR (N - 1) (stepL (x :: l)) := by
  intro y hy
  obtain ⟨z, hz, e1, e2, _, h5⟩ := shortL_mem _ _ _ y hy
  have hx := h x (by simp)
  have hzz := h z hz
  have k1 := numV_lt (N := N) (lo := min x.a x.b) (hi := max x.a x.b) (v := z.a) ⟨hzz.1, hzz.2.1⟩ (by omega) (by omega) (by omega)
  have k2 := numV_lt (N := N) (lo := min x.a x.b) (hi := max x.a x.b) (v := z.b) ⟨hzz.2.2.1, hzz.2.2.2.1⟩ (by omega) (by omega) (by omega)
  rw [← e1] at k1
  rw [← e2] at k2
  exact ⟨k1.1, k1.2, k2.1, k2.2, h5⟩
theorem conn_step {N : Int} {x : Wr} {l : List Wr} (h : InR N (x :: l)) : Conn N (x :: l) ↔ Conn (N - 1) (stepL (x :: l)) := by
  have hx := h x (by simp)
  obtain ⟨lo, hlo⟩ : ∃ lo, lo = min x.a x.b := ⟨_, rfl⟩
  obtain ⟨hi, hhi⟩ : ∃ hi, hi = max x.a x.b := ⟨_, rfl⟩
  have hst : stepL (x :: l) = shortL lo hi (x :: l) := by rw [hlo, hhi]; rfl
  have h1 : 0 ≤ lo ∧ lo < hi ∧ hi < N := by omega
  rw [hst]
  constructor
  · intro hc S h0 hS v hv0 hvN
    have key := hc (fun u => S (numV lo hi u)) (by
      show S (numV lo hi 0)
      unfold numV
      rw [if_neg (by omega), if_neg (by omega)]; exact h0) (fun y hy => by
      show S (numV lo hi y.a) ↔ S (numV lo hi y.b)
      by_cases e : numV lo hi y.a = numV lo hi y.b
      · rw [e]
      · exact hS _ (shortL_in hy e))
    rcases Int.lt_or_le v hi with h2 | h2
    · have := key v hv0 (by omega)
      have e : numV lo hi v = v := by unfold numV; rw [if_neg (by omega), if_neg (by omega)]
      rw [e] at this
      exact this
    · have := key (v + 1) (by omega) (by omega)
      have e : numV lo hi (v + 1) = v := by unfold numV; rw [if_neg (by omega), if_pos (by omega)]; omega
      rw [e] at this
      exact this
  · intro hc S h0 hS v hv0 hvN
    have hlh : S lo ↔ S hi := by
      have h2 := hS x (by simp)
      rcases Int.lt_or_gt_of_ne hx.2.2.2.2 with h3 | h3
      · rw [show lo = x.a by omega, show hi = x.b by omega]; exact h2
      · rw [show lo = x.b by omega, show hi = x.a by omega]; exact h2.symm
    have back : ∀ u, S (if numV lo hi u < hi then numV lo hi u else numV lo hi u + 1) ↔ S u := fun u => by
      unfold numV
      by_cases e1 : u = hi
      · rw [if_pos e1, if_pos h1.2.1, e1]; exact hlh
      · rw [if_neg e1]
        by_cases e2 : hi < u
        · rw [if_pos e2, if_neg (by omega), show u - 1 + 1 = u by omega]
        · rw [if_neg e2, if_pos (by omega)]
    have key := hc (fun u => S (if u < hi then u else u + 1)) (by
      show S (if (0 : Int) < hi then 0 else 0 + 1)
      rw [if_pos (by omega)]; exact h0) (fun y hy => by
      obtain ⟨z, hz, e1, e2, _, _⟩ := shortL_mem _ _ _ y hy
      show S (if y.a < hi then y.a else y.a + 1) ↔ S (if y.b < hi then y.b else y.b + 1)
      rw [e1, e2, back, back]; exact hS z hz)
    have hv := numV_lt (N := N) (lo := lo) (hi := hi) (v := v) ⟨hv0, hvN⟩ h1.1 h1.2.1 h1.2.2
    exact (back v).1 (key _ hv.1 hv.2)
theorem conn_nil {N : Int} (h : 1 ≤ N) : Conn N [] ↔ N = 1 := by
  constructor
  · intro hc
    have := hc (fun v => v = 0) rfl (fun x hx => by cases hx) (N - 1) (by omega) (by omega)
    have e : N - 1 = 0 := this
    omega
  · rintro rfl S h0 _ v h1 h2
    obtain rfl : v = 0 := by omega
    exact h0
theorem conn_joinV : ∀ (n : Nat) (N : Int) (l : List Wr), l.length ≤ n → 1 ≤ N → InR N l → (joinV l.length N l = true ↔ Conn N l)
  | n, N, [], _, hN, _ => by rw [conn_nil hN, joinV_nil]; simp
  | 0, N, x :: l, h, _, _ => by simp at h
  | n + 1, N, x :: l, h, hN, hin => by
    have hx := hin x (by simp)
    have h3 := stepL_lt (x := x) (l := l) hx.2.2.2.2
    rw [joinV_cons (fun y hy => (hin y hy).2.2.2.2), conn_step hin]
    simp only [List.length_cons] at h
    exact conn_joinV n (N - 1) (stepL (x :: l)) (by omega) (by omega) (stepL_in hin)

/-- What has been reached from the first vertex. -/
structure ReaW (N : Nat) (L : List Wr) (l : List Nat) : Prop where
  zero : 0 ∈ l
  nd : l.Nodup
  lt : ∀ v, v ∈ l → v < N
  re : ∀ S : Int → Prop, S 0 → (∀ x, x ∈ L → (S x.a ↔ S x.b)) → ∀ v, v ∈ l → S (v : Int)
theorem ReaW.start {N : Nat} (h : 0 < N) (L : List Wr) : ReaW N L [0] :=
  ⟨by simp, by simp, fun v hv => by simp at hv; omega, fun S h0 _ v hv => by simp at hv; subst hv; exact h0⟩
theorem ReaW.push {N : Nat} {L : List Wr} {l : List Nat} (h : ReaW N L l) {x : Wr} (hx : x ∈ L) {u v : Nat} (hu : u ∈ l) (hv : v < N) (hnew : v ∉ l) (hw : (x.a = (u : Int) ∧ x.b = (v : Int)) ∨ (x.b = (u : Int) ∧ x.a = (v : Int))) : ReaW N L (l ++ [v]) := by
  refine ⟨by simp [h.zero], ?_, fun y hy => ?_, fun S h0 hS y hy => ?_⟩
  · rw [List.nodup_append]
    exact ⟨h.nd, by simp, fun a ha b hb => by simp at hb; subst hb; exact fun e => hnew (e ▸ ha)⟩
  · simp at hy
    rcases hy with hy | rfl
    · exact h.lt y hy
    · exact hv
  · simp at hy
    rcases hy with hy | rfl
    · exact h.re S h0 hS y hy
    · have h1 := h.re S h0 hS u hu
      have h2 := hS x hx
      rcases hw with ⟨e1, e2⟩ | ⟨e1, e2⟩
      · rw [e1, e2] at h2; exact h2.1 h1
      · rw [e1, e2] at h2; exact h2.2 h1
theorem nodup_len : ∀ (N : Nat) (l : List Nat), l.Nodup → (∀ v, v ∈ l → v < N) → l.length ≤ N
  | 0, l, _, h => by
    cases l with
    | nil => exact Nat.le_refl _
    | cons a l => exact absurd (h a (by simp)) (by omega)
  | N + 1, l, hn, h => by
    have h1 := nodup_len N (l.filter (fun v => v != N)) (hn.filter _) (fun v hv => by
      simp only [List.mem_filter, bne_iff_ne] at hv
      have := h v hv.1
      omega)
    have h2 : l.length ≤ (l.filter (fun v => v != N)).length + 1 := by
      clear h1 h
      induction l with
      | nil => simp
      | cons a l ih =>
        rw [List.nodup_cons] at hn
        by_cases e : a = N
        · subst e
          have h3 : l.filter (fun v => v != a) = l := List.filter_eq_self.2 (fun b hb => by simp; exact fun e => hn.1 (e ▸ hb))
          have h4 : (a :: l).filter (fun v => v != a) = l := by rw [List.filter_cons]; simp [h3]
          rw [h4]; simp
        · have h4 : (a :: l).filter (fun v => v != N) = a :: l.filter (fun v => v != N) := by rw [List.filter_cons]; simp [e]
          rw [h4]
          have := ih hn.2
          simp only [List.length_cons]; omega
    omega
theorem nodup_all {N : Nat} {l : List Nat} (hn : l.Nodup) (h : ∀ v, v ∈ l → v < N) (hl : l.length = N) : ∀ v, v < N → v ∈ l := by
  intro v hv
  by_cases hm : v ∈ l
  · exact hm
  · exfalso
    have h1 := nodup_len N (v :: l) (by rw [List.nodup_cons]; exact ⟨hm, hn⟩) (fun u hu => by
      rcases List.mem_cons.1 hu with rfl | hu
      · exact hv
      · exact h u hu)
    simp at h1; omega
theorem nodup_full {N : Nat} {l : List Nat} (hn : l.Nodup) (h : ∀ v, v ∈ l → v < N) (ha : ∀ v, v < N → v ∈ l) : l.length = N := by
  have h1 := nodup_len N l hn h
  rcases Nat.eq_or_lt_of_le h1 with h2 | h2
  · exact h2
  · exfalso
    have h3 : (List.range N).length ≤ l.length := by
      refine (List.nodup_range).length_le_of_subset ?_
      intro v hv
      exact ha v (List.mem_range.1 hv)
    rw [List.length_range] at h3
    omega
/-- Where nothing more is reached: all are joined just if as many are reached as there are. -/
theorem ReaW.fin {N : Nat} {L : List Wr} {l : List Nat} (h : ReaW N L l) (hN : 1 ≤ N) (hin : InR N L) (hc : ∀ x, x ∈ L → ∀ u, u ∈ l → (x.a = (u : Int) → x.b.toNat ∈ l) ∧ (x.b = (u : Int) → x.a.toNat ∈ l)) :
    joinV L.length N L = decide (l.length = N) := by
  have hj := conn_joinV L.length N L (Nat.le_refl _) (by omega) hin
  by_cases e : l.length = N
  · rw [decide_eq_true e, hj]
    intro S h0 hS v h1 h2
    have := h.re S h0 hS v.toNat (nodup_all h.nd h.lt e v.toNat (by omega))
    rw [show ((v.toNat : Nat) : Int) = v by omega] at this
    exact this
  · rw [decide_eq_false e]
    cases hjj : joinV L.length N L with
    | false => rfl
    | true =>
      exfalso
      have hconn := hj.1 hjj
      refine e (nodup_full h.nd h.lt (fun v hv => ?_))
      have := hconn (fun u => u.toNat ∈ l) h.zero (fun x hx => by
        have hx2 := hin x hx
        constructor
        · intro hu
          exact (hc x hx x.a.toNat hu).1 (by omega)
        · intro hu
          exact (hc x hx x.b.toNat hu).2 (by omega)) (v : Int) (by omega) (by omega)
      simpa using this
end Go.Proofs.YtlnhpkmcinohdaaDoor

/- The document's Contains and From. -/
namespace Go.Proofs.YtlnhpkmcinohdaaDoor
open Go.RowKit

set_option maxRecDepth 100000 in
theorem Contains_any (v : Value) (l : List Nat) (x : Nat) (w : World) (h : StatesAt w v l) (_ : l.length ≤ 1000) :
    Calls Tryd.prog 32 #[v, .int .i64 x] w fun e w' => e = .returned (.bool (decide (x ∈ l))) ∧ w' = w := by
  obtain ⟨ad, cap, rfl⟩ := NumsAt.form h
  have HR : Hid (∀ i, i < l.length → ∃ b o, ad = some ⟨b, o, none⟩ ∧ w.cell? ⟨b, o + i, none⟩ = some (.int .i64 ((l.getD i 0 : Nat) : Int))) := fun i hi => by
    rcases h with ⟨_, _, _, h0⟩ | ⟨b, o, c, h1, _, h2⟩
    · omega
    · simp only [Value.slice.injEq, true_and] at h1
      exact ⟨b, o, h1.1, h2 i hi⟩
  clear h
  go_enter Tryd.func32, Tryd.ntmps32
  go_wp2_with fail
  go_loop [5] (fun t => ∃ k : Nat, k ≤ l.length ∧ t = .int .i64 k ∧ Hid (∀ i, i < k → l.getD i 0 ≠ x)) (fun t => l.length - (intOf t).toNat)
  case atStart => exact ⟨0, Nat.zero_le _, rfl, fun i hi => by omega⟩
  case round =>
    obtain ⟨k, hk, rfl, HN⟩ := hrel
    rcases Nat.lt_or_ge k l.length with h1 | h1
    · have hkI : (k : Int) < (l.length : Int) := by omega
      have hk0 : (0 : Int) ≤ (k : Int) := by omega
      obtain ⟨b, o, hadd, hc⟩ := HR.out k h1
      subst hadd
      by_cases he : l.getD k 0 = x
      · have hb : (((l.getD k 0 : Nat) : Int) == (x : Int)) = true := by rw [he]; simp
        have HV : Hid (decide (x ∈ l) = true) := decide_eq_true (by rw [← he, List.getD_eq_getElem?_getD, List.getElem?_eq_getElem h1]; simp)
        clear he
        generalize l.getD k 0 = y at *
        go_wp2_with fail
        go_ret
        exact ⟨ret_bool HV.out.symm, rfl⟩
      · have hb : (((l.getD k 0 : Nat) : Int) == (x : Int)) = false := by rw [beq_eq_false_iff_ne]; omega
        have HN' : Hid (∀ i, i < k + 1 → l.getD i 0 ≠ x) := fun i hi => by
          rcases Nat.lt_or_ge i k with h2 | h2
          · exact HN.out i h2
          · obtain rfl : i = k := by omega
            exact he
        clear he
        generalize l.getD k 0 = y at *
        go_wp2_with fail
        exact ⟨⟨k + 1, h1, by go_num, HN'⟩, by simp [intOf]; omega⟩
    · obtain rfl : k = l.length := by omega
      have HV : Hid (decide (x ∈ l) = false) := decide_eq_false (fun hm => by
        obtain ⟨i, hi, he⟩ := List.mem_iff_getElem.1 hm
        exact HN.out i hi (by rw [List.getD_eq_getElem?_getD, List.getElem?_eq_getElem hi]; exact he))
      go_wp2_with fail
      go_ret
      exact ⟨ret_bool HV.out.symm, rfl⟩

theorem firstL_le (e : Nat → Nat → Bool) (i : Nat) : ∀ n, (firstL e i n).length ≤ n
  | 0 => by simp [firstL]
  | n + 1 => by
    have := firstL_le e i n
    rw [firstL]; split
    · simp; omega
    · omega

end Go.Proofs.YtlnhpkmcinohdaaDoor

/- The document's joinedTo, of all wires. -/
namespace Go.Proofs.YtlnhpkmcinohdaaDoor
open Go.RowKit

set_option maxRecDepth 100000 in
theorem Contains_none (v : Value) (l : List Nat) (w : World) (h : StatesAt w v l) (_ : l.length ≤ 1000) :
    Calls Tryd.prog 32 #[v, .int .i64 (-1)] w fun e w' => e = .returned (.bool false) ∧ w' = w := by
  obtain ⟨ad, cap, rfl⟩ := NumsAt.form h
  have HR : Hid (∀ i, i < l.length → ∃ b o, ad = some ⟨b, o, none⟩ ∧ w.cell? ⟨b, o + i, none⟩ = some (.int .i64 ((l.getD i 0 : Nat) : Int))) := fun i hi => by
    rcases h with ⟨_, _, _, h0⟩ | ⟨b, o, c, h1, _, h2⟩
    · omega
    · simp only [Value.slice.injEq, true_and] at h1
      exact ⟨b, o, h1.1, h2 i hi⟩
  clear h
  go_enter Tryd.func32, Tryd.ntmps32
  go_wp2_with fail
  go_loop [5] (fun t => ∃ k : Nat, k ≤ l.length ∧ t = .int .i64 k) (fun t => l.length - (intOf t).toNat)
  case atStart => exact ⟨0, Nat.zero_le _, rfl⟩
  case round =>
    obtain ⟨k, hk, rfl⟩ := hrel
    rcases Nat.lt_or_ge k l.length with h1 | h1
    · have hkI : (k : Int) < (l.length : Int) := by omega
      have hk0 : (0 : Int) ≤ (k : Int) := by omega
      obtain ⟨b, o, hadd, hc⟩ := HR.out k h1
      subst hadd
      have hb : (((l.getD k 0 : Nat) : Int) == (-1 : Int)) = false := by rw [beq_eq_false_iff_ne]; omega
      generalize l.getD k 0 = y at *
      go_wp2_with fail
      exact ⟨⟨k + 1, h1, by go_num⟩, by simp [intOf]; omega⟩
    · obtain rfl : k = l.length := by omega
      go_wp2_with fail
      go_ret
      exact ⟨rfl, rfl⟩
theorem below_drawn {w W : World} {n : Nat} (h : Below n w W) : ∀ k, Below n w (W.drewN k)
  | 0 => h
  | k + 1 => (below_drawn h k).drew
/-- All that the wires reach from the states ahead of the m-th is there. -/
def DoneW (L : List Wr) (l : List Nat) (m : Nat) : Prop := ∀ k, k < m → ∀ x, x ∈ L → (x.a = ((l.getD k 0 : Nat) : Int) → x.b.toNat ∈ l) ∧ (x.b = ((l.getD k 0 : Nat) : Int) → x.a.toNat ∈ l)
/-- And what the first i wires reach from the m-th. -/
def HalfW (L : List Wr) (l : List Nat) (m i : Nat) : Prop := ∀ x, x ∈ L.take i → (x.a = ((l.getD m 0 : Nat) : Int) → x.b.toNat ∈ l) ∧ (x.b = ((l.getD m 0 : Nat) : Int) → x.a.toNat ∈ l)
theorem getD_push {l : List Nat} {k v : Nat} (h : k < l.length) : (l ++ [v]).getD k 0 = l.getD k 0 := by
  rw [List.getD_eq_getElem?_getD, List.getD_eq_getElem?_getD, List.getElem?_append_left h]
theorem DoneW.push {L : List Wr} {l : List Nat} {m v : Nat} (h : DoneW L l m) (hm : m ≤ l.length) : DoneW L (l ++ [v]) m := fun k hk x hx => by
  rw [getD_push (by omega)]
  have := h k hk x hx
  exact ⟨fun e => by simp [this.1 e], fun e => by simp [this.2 e]⟩
theorem HalfW.push {L : List Wr} {l : List Nat} {m i v : Nat} (h : HalfW L l m i) (hm : m < l.length) : HalfW L (l ++ [v]) m i := fun x hx => by
  rw [getD_push hm]
  have := h x hx
  exact ⟨fun e => by simp [this.1 e], fun e => by simp [this.2 e]⟩
theorem HalfW.next {L : List Wr} {l : List Nat} {m i : Nat} {x : Wr} (h : HalfW L l m i) (hx : L[i]? = some x) (h2 : (x.a = ((l.getD m 0 : Nat) : Int) → x.b.toNat ∈ l) ∧ (x.b = ((l.getD m 0 : Nat) : Int) → x.a.toNat ∈ l)) : HalfW L l m (i + 1) := fun y hy => by
  obtain ⟨hi, rfl⟩ := List.getElem?_eq_some_iff.1 hx
  rw [List.take_succ_eq_append_getElem hi] at hy
  rcases List.mem_append.1 hy with hy | hy
  · exact h y hy
  · simp at hy; subst hy; exact h2
theorem HalfW.done {L : List Wr} {l : List Nat} {m : Nat} (h : HalfW L l m L.length) (hd : DoneW L l m) : DoneW L l (m + 1) := fun k hk x hx => by
  rcases Nat.lt_or_ge k m with h1 | h1
  · exact hd k h1 x hx
  · obtain rfl : k = m := by omega
    exact h x (by rw [List.take_length]; exact hx)

set_option maxRecDepth 100000 in
set_option maxHeartbeats 8000000 in
theorem joinedTo_any (N : Nat) (v : Value) (L : List Wr) (w : World) (h : WrAt w v L) (hl : L.length ≤ 20) (hN1 : 1 ≤ N) (hN : N ≤ 8) (hin : InR N L) :
    Calls Tryd.prog 20 #[.agg #[.int .i64 N, v], .int .i64 (L.length : Int), .int .i64 (-1)] w fun e w' => e = .returned (.bool (joinV L.length N L)) ∧ Below w.heap.size w w' := by
  obtain ⟨i1, hi, hz0, hz1, hz2⟩ := info_parts Tryd.infoIn1
  have HINI : Hid (Tryd.prog.info? 3 = some i1 ∧ i1.zero = some (.int .i64 0) ∧ i1.size = 1 ∧ i1.bytes = 8) := ⟨hi, hz0, hz1, hz2⟩
  clear hi hz0 hz1 hz2
  obtain ⟨ad, cap, rfl⟩ := h.form
  obtain ⟨W1, hW1⟩ : ∃ W1, W1 = w.alloc (.cells #[.int .i64 N, .slice ad L.length cap] 24) := ⟨_, rfl⟩
  obtain ⟨bx, hbx⟩ : ∃ bx, bx = w.heap.size := ⟨_, rfl⟩
  have hb1 : Below w.heap.size w W1 := by rw [hW1]; exact (Below.refl _ _).alloc (Nat.le_refl _) _
  have q0 : W1.cell? ⟨bx, 0, none⟩ = some (.int .i64 N) := by rw [hW1, hbx]; go_simp
  have q1 : W1.cell? ⟨bx, 1, none⟩ = some (.slice ad L.length cap) := by rw [hW1, hbx]; go_simp
  have HC : Hid (∀ W, Below W1.heap.size W1 W → W.cell? ⟨bx, 0, none⟩ = some (.int .i64 N) ∧ W.cell? ⟨bx, 1, none⟩ = some (.slice ad L.length cap)) := fun W hb => ⟨by rw [hb.cell (cell_lt q0)]; exact q0, by rw [hb.cell (cell_lt q1)]; exact q1⟩
  have HL := Hid.mk' (fun (W : World) (hb : Below W1.heap.size W1 W) => (h.later hb1).later hb)
  have HEND := Hid.mk' hb1
  have HIN := Hid.mk' hin
  obtain ⟨W2, hW2⟩ : ∃ W2, W2 = W1.alloc (.cells #[.int .i64 0] 3) := ⟨_, rfl⟩
  have hb2 : Below W1.heap.size W1 W2 := by rw [hW2]; exact (Below.refl _ _).alloc (Nat.le_refl _) _
  have HO2 : Hid (W2.ownsRow W1.heap.size 3 1 (.slice (some ⟨W1.heap.size, 0, none⟩) 1 1) 1 (cellL (natL [0]))) := by
    rw [hW2]
    refine ⟨rfl, Or.inr ⟨W1.heap.size, 1, #[.int .i64 0], rfl, Nat.le_refl _, ?_, by decide, by decide, rfl, rfl⟩⟩
    unfold World.alloc; simp
  have HB2 := Hid.mk' hb2
  clear h hin hb1 hb2
  go_enter Tryd.func20, Tryd.ntmps20
  go_upto_region 1 with fail
  rw [← hW1, ← hbx]
  clear hW1 hbx
  go_upto_region 2 with fail
  rw [← hW2]
  clear hW2
  obtain ⟨q0, q1⟩ := HC.out W2 HB2.out
  go_wp2_with fail
  clear q0 q1
  go_loopw [7, 8] (fun s i wr => ∃ (n : Nat) (l : List Nat), n ≤ l.length ∧ i = .int .i64 n ∧ Hid (ReaW N L l ∧ DoneW L l n) ∧ Hid (wr.ownsRow W1.heap.size 3 1 s l.length (cellL (natL l))) ∧ Hid (Below W1.heap.size W1 wr)) (fun _ i _ => N - (intOf i).toNat)
  case atStart => exact ⟨0, [0], Nat.zero_le _, rfl, ⟨ReaW.start (by omega) L, fun k hk => by omega⟩, HO2.out, HB2.out⟩
  case round =>
    clear HO2 HB2
    obtain ⟨n, l, hnl, rfl, HR, HO, HB⟩ := hrel
    have hn0 : (0 : Int) ≤ (n : Int) := by omega
    have hlN := nodup_len N l HR.out.1.nd HR.out.1.lt
    obtain ⟨sad, scap, rfl⟩ := own_formW HO.out
    rcases Nat.lt_or_ge n l.length with h1 | h1
    · have hnI : (n : Int) < (l.length : Int) := by omega
      have HH : Hid (HalfW L l n 0) := fun x hx => by simp at hx
      go_wp2_with fail
      obtain ⟨Wr, hWr⟩ : ∃ Wr, Wr = wr := ⟨_, rfl⟩
      rw [← hWr] at HO HB ⊢
      clear hWr
      go_loopw [7, 9] (fun s i wr => ∃ (k : Nat) (l : List Nat), k ≤ L.length ∧ n < l.length ∧ i = .int .i64 k ∧ Hid (ReaW N L l ∧ DoneW L l n ∧ HalfW L l n k) ∧ Hid (wr.ownsRow W1.heap.size 3 1 s l.length (cellL (natL l))) ∧ Hid (Below W1.heap.size W1 wr)) (fun _ i _ => L.length - (intOf i).toNat)
      case atStart => exact ⟨0, l, Nat.zero_le _, h1, rfl, ⟨HR.out.1, HR.out.2, HH.out⟩, HO.out, HB.out⟩
      case round =>
        clear HO HB HR HH hlN h1 hnI hnl
        obtain ⟨k, l, hk, h1, rfl, HR, HO, HB⟩ := hrel
        have hk0 : (0 : Int) ≤ (k : Int) := by omega
        have hlN := nodup_len N l HR.out.1.nd HR.out.1.lt
        obtain ⟨sad, scap, rfl⟩ := own_formW HO.out
        rcases Nat.lt_or_ge k L.length with h5 | h5
        · have hkI : (k : Int) < (L.length : Int) := by omega
          obtain ⟨x, hx⟩ : ∃ x, L[k]? = some x := ⟨_, List.getElem?_eq_getElem h5⟩
          obtain ⟨b, o, hbo, x0, x1, x2⟩ := (HL.out wr HB.out).at hx
          subst hbo
          have hxm := List.mem_of_getElem? hx
          obtain ⟨pa0, paN, pb0, pbN, pab⟩ := HIN.out x hxm
          have hst := statesAt_row HO.out
          obtain ⟨sb, hsb, hrow⟩ : ∃ sb, sad = some ⟨sb, 0, none⟩ ∧ RowAt wr sb 0 l.length (fun i => ((l.getD i 0 : Nat) : Int)) := by
            rcases HO.out.2 with ⟨_, h0⟩ | ⟨g, cap, cur, hv, _⟩
            · omega
            · obtain ⟨rfl, rfl⟩ : sad = some ⟨g, 0, none⟩ ∧ scap = cap := by simpa using hv
              refine ⟨g, rfl, ?_⟩
              rcases hst with ⟨_, _, _, h0⟩ | ⟨b', o', c', h1', _, h2'⟩
              · omega
              · simp only [Value.slice.injEq, Option.some.injEq, Addr.mk.injEq, and_true, true_and] at h1'
                obtain ⟨⟨rfl, rfl⟩, _⟩ := h1'
                exact h2'
          subst hsb
          obtain ⟨u, hu⟩ : ∃ u, u = l.getD n 0 := ⟨_, rfl⟩
          have hum : u ∈ l := by rw [hu, List.getD_eq_getElem?_getD, List.getElem?_eq_getElem h1]; simp
          have hrn := hrow n h1
          rw [Nat.zero_add] at hrn
          have hrn : wr.cell? ⟨sb, n, none⟩ = some (.int .i64 (u : Int)) := by rw [hu]; exact hrn
          obtain ⟨na, hna⟩ : ∃ na : Nat, x.a = (na : Int) := ⟨x.a.toNat, by omega⟩
          obtain ⟨nb, hnb⟩ : ∃ nb : Nat, x.b = (nb : Int) := ⟨x.b.toNat, by omega⟩
          have hnaN : na < N := by omega
          have hnbN : nb < N := by omega
          have hnab : na ≠ nb := by omega
          -- what becomes of the list
          have HNX : Hid (∀ l', (l' = l ∧ (na = u → nb ∈ l) ∧ (nb = u → na ∈ l)) ∨ (∃ q, l' = l ++ [q] ∧ q ∉ l ∧ (na = u ∧ q = nb ∨ nb = u ∧ q = na)) → ReaW N L l' ∧ DoneW L l' n ∧ HalfW L l' n (k + 1) ∧ n < l'.length) := fun l' hl' => by
            rcases hl' with ⟨rfl, k1, k2⟩ | ⟨q, rfl, k1, k2⟩
            · refine ⟨HR.out.1, HR.out.2.1, HR.out.2.2.next hx ⟨fun e => ?_, fun e => ?_⟩, h1⟩
              · rw [hna, ← hu] at e; rw [hnb]; simpa using k1 (by omega)
              · rw [hnb, ← hu] at e; rw [hna]; simpa using k2 (by omega)
            · refine ⟨HR.out.1.push hxm hum (by rcases k2 with ⟨_, rfl⟩ | ⟨_, rfl⟩ <;> assumption) k1 (by rw [hna, hnb]; rcases k2 with ⟨rfl, rfl⟩ | ⟨rfl, rfl⟩ <;> simp), HR.out.2.1.push (by omega), (HR.out.2.2.push h1).next hx ?_, by simp; omega⟩
              rw [getD_push h1, hna, hnb, ← hu]
              rcases k2 with ⟨e1, rfl⟩ | ⟨e1, rfl⟩
              · exact ⟨fun _ => by simp, fun e => absurd e (by omega)⟩
              · exact ⟨fun e => absurd e (by omega), fun _ => by simp⟩
          have huN := HR.out.1.lt u hum
          rw [hna] at x0
          rw [hnb] at x1
          obtain ⟨W4, hW4⟩ : ∃ W4, W4 = wr.alloc (.cells #[.int .i64 (na : Int), .int .i64 (nb : Int), .int .i64 x.c] 48) := ⟨_, rfl⟩
          have hb4 : Below wr.heap.size wr W4 := by rw [hW4]; exact (Below.refl _ _).alloc (Nat.le_refl _) _
          have c0 : W4.cell? ⟨wr.heap.size, 0, none⟩ = some (.int .i64 (na : Int)) := by rw [hW4]; go_simp
          have c1 : W4.cell? ⟨wr.heap.size, 1, none⟩ = some (.int .i64 (nb : Int)) := by rw [hW4]; go_simp
          have hrn4 : W4.cell? ⟨sb, n, none⟩ = some (.int .i64 (u : Int)) := by rw [hb4.cell (cell_lt hrn)]; exact hrn
          have HO4 := Hid.mk' (own_pastW HO.out hb4)
          have HB4 := Hid.mk' (below_chain HB.out hb4)
          have HW4 := Hid.mk' hW4
          obtain ⟨q0, q1⟩ := HC.out wr HB.out
          clear hst hrow hrn hxm hum hx hu hna hnb hb4 hW4 HO HB HR pa0 paN pb0 pbN pab
          go_upto_region 10 with fail
          rw [← HW4.out]
          clear x0 x1 x2 q0 q1
          obtain ⟨cb, hcb⟩ : ∃ cb, cb = wr.heap.size := ⟨_, rfl⟩
          rw [← hcb] at c0 c1 ⊢
          clear hcb HW4
          by_cases ea : na = u
          · have eb : nb ≠ u := by omega
            have ead : ((na : Int) == (u : Int)) = true := by simp [ea]
            have ebd : ((nb : Int) == (u : Int)) = false := by rw [beq_eq_false_iff_ne]; omega
            have HEA := Hid.mk' (And.intro ea eb)
            clear ea eb
            go_wp2_with fail
            go_quiet (fail)
            go_wp2_with fail
            go_quiet (fail)
            go_wp2_with fail
            have HOD := Hid.mk' (fun (K : Nat) => own_pastW HO4.out (below_drawn (Below.refl W4.heap.size W4) K))
            have HBD := Hid.mk' (fun (K : Nat) => below_chain HB4.out (below_drawn (Below.refl W4.heap.size W4) K))
            clear c0 c1 hrn4
            refine (Contains_any _ l nb _ (statesAt_row (HOD.out _)) (by omega)).mono ?_
            rintro e w5 ⟨rfl, hw5⟩
            have HO5 : Hid (w5.ownsRow W1.heap.size 3 1 (.slice (some ⟨sb, 0, none⟩) l.length scap) l.length (cellL (natL l))) := by rw [hw5]; exact HOD.out _
            have HB5 : Hid (Below W1.heap.size W1 w5) := by rw [hw5]; exact HBD.out _
            clear hw5 HOD HBD HO4 HB4
            by_cases hm : nb ∈ l
            · have hmd : decide (nb ∈ l) = true := decide_eq_true hm
              have HN2 := Hid.mk' (HNX.out l (Or.inl ⟨rfl, fun _ => hm, fun e => absurd e (by have := HEA.out; omega)⟩))
              clear hm
              go_wp2_with fail
              exact ⟨⟨k + 1, l, h5, h1, by go_num, ⟨HN2.out.1, HN2.out.2.1, HN2.out.2.2.1⟩, HO5.out, HB5.out⟩, by simp [intOf]; omega⟩
            · have hmd : decide (nb ∈ l) = false := decide_eq_false hm
              have HN2 := Hid.mk' (HNX.out (l ++ [nb]) (Or.inr ⟨nb, rfl, hm, Or.inl ⟨HEA.out.1, rfl⟩⟩))
              have hsz := HB5.out.size
              clear hm
              go_wp2_with (at_builtin; go_must (refine wpList_append_lies _ rfl _ _ _ rfl W1.heap.size 3 i1 _ 1 8 Tryd.underlying59 HINI.out.1 HINI.out.2.1 HINI.out.2.2.1 HINI.out.2.2.2 rfl (by omega) _ _ _ rfl (HO5.out.alloc _) ⟨w5.heap.size, 0, none⟩ 1 1 [.int .i64 (nb : Int)] rfl rfl (one_new _ _ _) (by simp [Value.oneCell']) (by omega) (by unfold maxLen; omega) (by omega) (by simp; omega) _ rfl ?_; intro g' cap' w9 hown9 hgrow9 hat9 hlt9; have HO9 := Hid.mk' hown9; have HB9 := Hid.mk' (below_push HB5.out HO5.out hgrow9); clear hown9 hgrow9 hat9 hlt9))
              exact ⟨⟨k + 1, l ++ [nb], h5, HN2.out.2.2.2, by go_num, ⟨HN2.out.1, HN2.out.2.1, HN2.out.2.2.1⟩, by show World.ownsRow _ _ _ _ _ _ _; rw [natL_push, List.length_append]; exact HO9.out, HB9.out⟩, by simp [intOf]; omega⟩
          · have ead : ((na : Int) == (u : Int)) = false := by rw [beq_eq_false_iff_ne]; omega
            by_cases eb : nb = u
            · have ebd : ((nb : Int) == (u : Int)) = true := by simp [eb]
              have HEA := Hid.mk' (And.intro eb ea)
              clear ea eb
              go_wp2_with fail
              go_quiet (fail)
              go_wp2_with fail
              go_quiet (fail)
              go_wp2_with fail
              have HOD := Hid.mk' (fun (K : Nat) => own_pastW HO4.out (below_drawn (Below.refl W4.heap.size W4) K))
              have HBD := Hid.mk' (fun (K : Nat) => below_chain HB4.out (below_drawn (Below.refl W4.heap.size W4) K))
              clear c0 c1 hrn4
              refine (Contains_any _ l na _ (statesAt_row (HOD.out _)) (by omega)).mono ?_
              rintro e w5 ⟨rfl, hw5⟩
              have HO5 : Hid (w5.ownsRow W1.heap.size 3 1 (.slice (some ⟨sb, 0, none⟩) l.length scap) l.length (cellL (natL l))) := by rw [hw5]; exact HOD.out _
              have HB5 : Hid (Below W1.heap.size W1 w5) := by rw [hw5]; exact HBD.out _
              clear hw5 HOD HBD HO4 HB4
              by_cases hm : na ∈ l
              · have hmd : decide (na ∈ l) = true := decide_eq_true hm
                have HN2 := Hid.mk' (HNX.out l (Or.inl ⟨rfl, fun e => absurd e (by have := HEA.out; omega), fun _ => hm⟩))
                clear hm
                go_wp2_with fail
                exact ⟨⟨k + 1, l, h5, h1, by go_num, ⟨HN2.out.1, HN2.out.2.1, HN2.out.2.2.1⟩, HO5.out, HB5.out⟩, by simp [intOf]; omega⟩
              · have hmd : decide (na ∈ l) = false := decide_eq_false hm
                have HN2 := Hid.mk' (HNX.out (l ++ [na]) (Or.inr ⟨na, rfl, hm, Or.inr ⟨HEA.out.1, rfl⟩⟩))
                have hsz := HB5.out.size
                clear hm
                go_wp2_with (at_builtin; go_must (refine wpList_append_lies _ rfl _ _ _ rfl W1.heap.size 3 i1 _ 1 8 Tryd.underlying59 HINI.out.1 HINI.out.2.1 HINI.out.2.2.1 HINI.out.2.2.2 rfl (by omega) _ _ _ rfl (HO5.out.alloc _) ⟨w5.heap.size, 0, none⟩ 1 1 [.int .i64 (na : Int)] rfl rfl (one_new _ _ _) (by simp [Value.oneCell']) (by omega) (by unfold maxLen; omega) (by omega) (by simp; omega) _ rfl ?_; intro g' cap' w9 hown9 hgrow9 hat9 hlt9; have HO9 := Hid.mk' hown9; have HB9 := Hid.mk' (below_push HB5.out HO5.out hgrow9); clear hown9 hgrow9 hat9 hlt9))
                exact ⟨⟨k + 1, l ++ [na], h5, HN2.out.2.2.2, by go_num, ⟨HN2.out.1, HN2.out.2.1, HN2.out.2.2.1⟩, by show World.ownsRow _ _ _ _ _ _ _; rw [natL_push, List.length_append]; exact HO9.out, HB9.out⟩, by simp [intOf]; omega⟩
            · have ebd : ((nb : Int) == (u : Int)) = false := by rw [beq_eq_false_iff_ne]; omega
              have HN2 := Hid.mk' (HNX.out l (Or.inl ⟨rfl, fun e => absurd e ea, fun e => absurd e eb⟩))
              clear ea eb
              go_wp2_with fail
              go_quiet (fail)
              go_wp2_with fail
              go_quiet (fail)
              go_wp2_with fail
              have HOD := Hid.mk' (fun (K : Nat) => own_pastW HO4.out (below_drawn (Below.refl W4.heap.size W4) K))
              have HBD := Hid.mk' (fun (K : Nat) => below_chain HB4.out (below_drawn (Below.refl W4.heap.size W4) K))
              clear c0 c1 hrn4
              refine (Contains_none _ l _ (statesAt_row (HOD.out _)) (by omega)).mono ?_
              rintro e w5 ⟨rfl, hw5⟩
              have HO5 : Hid (w5.ownsRow W1.heap.size 3 1 (.slice (some ⟨sb, 0, none⟩) l.length scap) l.length (cellL (natL l))) := by rw [hw5]; exact HOD.out _
              have HB5 : Hid (Below W1.heap.size W1 w5) := by rw [hw5]; exact HBD.out _
              clear hw5 HOD HBD HO4 HB4
              go_wp2_with fail
              exact ⟨⟨k + 1, l, h5, h1, by go_num, ⟨HN2.out.1, HN2.out.2.1, HN2.out.2.2.1⟩, HO5.out, HB5.out⟩, by simp [intOf]; omega⟩
        · obtain rfl : k = L.length := by omega
          have HRR : Hid (ReaW N L l ∧ DoneW L l (n + 1)) := ⟨HR.out.1, HR.out.2.2.done HR.out.2.1⟩
          go_wp2_with fail
          exact ⟨⟨n + 1, l, h1, by go_num, HRR.out, HO.out, HB.out⟩, by simp [intOf]; omega⟩
    · obtain rfl : n = l.length := by omega
      have HJ : Hid (joinV L.length N L = decide (l.length = N)) := HR.out.1.fin hN1 HIN.out (fun x hx u hu => by
        obtain ⟨k, hk, rfl⟩ := List.getElem_of_mem hu
        have := HR.out.2 k hk x hx
        rw [List.getD_eq_getElem?_getD, List.getElem?_eq_getElem hk] at this
        simpa using this)
      obtain ⟨q0, q1⟩ := HC.out wr HB.out
      have HBB := Hid.mk' (below_chain HEND.out HB.out)
      have hd : ((l.length : Int) == (N : Int)) = decide (l.length = N) := by
        by_cases e : l.length = N
        · rw [decide_eq_true e, e]; simp
        · rw [decide_eq_false e, beq_eq_false_iff_ne]; omega
      clear HR HO HB
      generalize decide (l.length = N) = T at *
      go_wp2_with fail
      go_ret
      exact ⟨by rw [HJ.out]; rfl, HBB.out⟩
end Go.Proofs.YtlnhpkmcinohdaaDoor

/- The document's NetError. -/
namespace Go.Proofs.YtlnhpkmcinohdaaDoor
open Go.RowKit

set_option maxRecDepth 100000 in
set_option maxHeartbeats 8000000 in
theorem NetError_any (N : Int) (v : Value) (L : List Wr) (w : World) (h : WrAt w v L) (hl : L.length ≤ 1000) :
    Calls Tryd.prog 7 #[.agg #[.int .i64 N, v]] w fun e w' => e = .returned (.int .i64 (nwE N L : Nat)) ∧ Below w.heap.size w w' := by
  obtain ⟨ad, cap, rfl⟩ := h.form
  obtain ⟨W1, hW1⟩ : ∃ W1, W1 = w.alloc (.cells #[.int .i64 N, .slice ad L.length cap] 24) := ⟨_, rfl⟩
  obtain ⟨bx, hbx⟩ : ∃ bx, bx = w.heap.size := ⟨_, rfl⟩
  have hb1 : Below w.heap.size w W1 := by rw [hW1]; exact (Below.refl _ _).alloc (Nat.le_refl _) _
  have q0 : W1.cell? ⟨bx, 0, none⟩ = some (.int .i64 N) := by rw [hW1, hbx]; go_simp
  have q1 : W1.cell? ⟨bx, 1, none⟩ = some (.slice ad L.length cap) := by rw [hW1, hbx]; go_simp
  have HC : Hid (∀ W, Below W1.heap.size W1 W → W.cell? ⟨bx, 0, none⟩ = some (.int .i64 N) ∧ W.cell? ⟨bx, 1, none⟩ = some (.slice ad L.length cap)) := fun W hb => ⟨by rw [hb.cell (cell_lt q0)]; exact q0, by rw [hb.cell (cell_lt q1)]; exact q1⟩
  have HL := Hid.mk' (fun (W : World) (hb : Below W1.heap.size W1 W) => (h.later hb1).later hb)
  have HEND : Hid (∀ W, Below W1.heap.size W1 W → Below w.heap.size w W) := fun W hb => below_chain hb1 hb
  have HLN : Hid (L.length ≤ 1000) := hl
  clear h hb1
  by_cases hbad : N < 1 ∨ 8 < N ∨ 20 < L.length
  · have HR : Hid (nwE N L = 2) := by show _ = _; unfold nwE; rw [if_pos hbad]
    have hcase : (N < 1) ∨ (¬ N < 1 ∧ 8 < N) ∨ (¬ N < 1 ∧ ¬ 8 < N ∧ (20 : Int) < (L.length : Int)) := by omega
    clear hbad
    rcases hcase with h1 | ⟨h1, h2⟩ | ⟨h1, h2, h3⟩
    · have h1d : decide (N < 1) = true := decide_eq_true h1
      go_enter Tryd.func7, Tryd.ntmps7
      go_upto_region 1 with fail
      rw [← hW1, ← hbx]
      clear hW1 hbx
      go_wp2_with fail
      go_ret
      exact ⟨by rw [HR.out]; rfl, HEND.out _ (Below.refl _ _)⟩
    · have h1d : decide (N < 1) = false := decide_eq_false h1
      have h2d : decide (8 < N) = true := decide_eq_true h2
      go_enter Tryd.func7, Tryd.ntmps7
      go_upto_region 1 with fail
      rw [← hW1, ← hbx]
      clear hW1 hbx
      go_wp2_with fail
      go_ret
      exact ⟨by rw [HR.out]; rfl, HEND.out _ (Below.refl _ _)⟩
    · have h1d : decide (N < 1) = false := decide_eq_false h1
      have h2d : decide (8 < N) = false := decide_eq_false h2
      have h3d : decide ((20 : Int) < (L.length : Int)) = true := decide_eq_true h3
      go_enter Tryd.func7, Tryd.ntmps7
      go_upto_region 1 with fail
      rw [← hW1, ← hbx]
      clear hW1 hbx
      go_wp2_with fail
      go_ret
      exact ⟨by rw [HR.out]; rfl, HEND.out _ (Below.refl _ _)⟩
  · have h1d : decide (N < 1) = false := decide_eq_false (by omega)
    have h2d : decide (8 < N) = false := decide_eq_false (by omega)
    have h3I : ¬ (20 : Int) < (L.length : Int) := by omega
    have h3d : decide ((20 : Int) < (L.length : Int)) = false := decide_eq_false h3I
    have HR : Hid (nwE N L = if wiresB N L then (if joinV L.length N L then 0 else 6) else 3) := by show _ = _; unfold nwE; rw [if_neg hbad]
    have HNB : Hid (1 ≤ N ∧ N ≤ 8 ∧ L.length ≤ 20) := by show _ ∧ _; omega
    clear hbad
    go_enter Tryd.func7, Tryd.ntmps7
    go_upto_region 1 with fail
    rw [← hW1, ← hbx]
    clear hW1 hbx
    go_wp2_with fail
    clear q0 q1
    go_loopw [3] (fun t wr => ∃ k : Nat, k ≤ L.length ∧ t = .int .i64 k ∧ Hid (wiresB N (L.take k) = true) ∧ Hid (Below W1.heap.size W1 wr)) (fun t _ => L.length - (intOf t).toNat)
    case atStart => exact ⟨0, Nat.zero_le _, rfl, rfl, Below.refl _ _⟩
    case round =>
      obtain ⟨k, hk, rfl, HK, HB⟩ := hrel
      have hk0 : (0 : Int) ≤ (k : Int) := by omega
      obtain ⟨q0, q1⟩ := HC.out wr HB.out
      rcases Nat.lt_or_ge k L.length with h5 | h5
      · obtain ⟨x, hx⟩ : ∃ x, L[k]? = some x := ⟨_, List.getElem?_eq_getElem h5⟩
        obtain ⟨b, o, hbo, x0, x1, x2⟩ := (HL.out wr HB.out).at hx
        subst hbo
        have HMEM := Hid.mk' (List.mem_of_getElem? hx)
        have HTK : Hid (wiresB N (L.take (k + 1)) = wireB N x) := by
          show _ = _
          obtain ⟨hi, rfl⟩ := List.getElem?_eq_some_iff.1 hx
          rw [List.take_succ_eq_append_getElem hi, wiresB_snoc, HK.out, Bool.true_and]
        have HSH : Hid (wireB N x = false → nwE N L = 3) := fun h => by rw [HR.out, wiresB_no HMEM.out h]; rfl
        have hkI : (k : Int) < (L.length : Int) := by omega
        obtain ⟨xa, hxa⟩ : ∃ z, z = x.a := ⟨_, rfl⟩
        obtain ⟨xb, hxb⟩ : ∃ z, z = x.b := ⟨_, rfl⟩
        obtain ⟨xc, hxc⟩ : ∃ z, z = x.c := ⟨_, rfl⟩
        have HWB : Hid (wireB N x = (twoB N xa xb && (decide (1 ≤ xc) && decide (xc ≤ 1000)))) := by rw [hxa, hxb, hxc]; rfl
        rw [← hxa] at x0
        rw [← hxb] at x1
        rw [← hxc] at x2
        obtain ⟨W4, hW4⟩ : ∃ W4, W4 = wr.alloc (.cells #[.int .i64 xa, .int .i64 xb, .int .i64 xc] 48) := ⟨_, rfl⟩
        have hb4 : Below wr.heap.size wr W4 := by rw [hW4]; exact (Below.refl _ _).alloc (Nat.le_refl _) _
        have c0 : W4.cell? ⟨wr.heap.size, 0, none⟩ = some (.int .i64 xa) := by rw [hW4]; go_simp
        have c1 : W4.cell? ⟨wr.heap.size, 1, none⟩ = some (.int .i64 xb) := by rw [hW4]; go_simp
        have c2 : W4.cell? ⟨wr.heap.size, 2, none⟩ = some (.int .i64 xc) := by rw [hW4]; go_simp
        have HB4 := Hid.mk' (below_chain HB.out hb4)
        have HW4 := Hid.mk' hW4
        clear hb4 hW4 hx hxa hxb hxc
        go_upto_region 7 with fail
        rw [← HW4.out]
        clear x0 x1 x2 q0 q1
        obtain ⟨q0, q1⟩ := HC.out W4 HB4.out
        by_cases g0 : xa < 0
        · have g0d : decide (xa < 0) = true := decide_eq_true g0
          have HF := Hid.mk' (HSH.out (by rw [HWB.out]; unfold twoB; rw [decide_eq_false (show ¬ 0 ≤ xa by omega)]; rfl))
          clear g0
          go_wp2_with fail
          go_ret
          exact ⟨by rw [HF.out]; rfl, HEND.out _ HB4.out⟩
        · have g0d : decide (xa < 0) = false := decide_eq_false g0
          by_cases g1 : xb < 0
          · have g1d : decide (xb < 0) = true := decide_eq_true g1
            have HF := Hid.mk' (HSH.out (by rw [HWB.out]; unfold twoB; rw [decide_eq_false (show ¬ 0 ≤ xb by omega)]; simp))
            clear g1
            go_wp2_with fail
            go_ret
            exact ⟨by rw [HF.out]; rfl, HEND.out _ HB4.out⟩
          · have g1d : decide (xb < 0) = false := decide_eq_false g1
            by_cases g2 : N ≤ xa
            · have g2d : decide (N ≤ xa) = true := decide_eq_true g2
              have HF := Hid.mk' (HSH.out (by rw [HWB.out]; unfold twoB; rw [decide_eq_false (show ¬ xa < N by omega)]; simp))
              clear g2
              go_wp2_with fail
              go_ret
              exact ⟨by rw [HF.out]; rfl, HEND.out _ HB4.out⟩
            · have g2d : decide (N ≤ xa) = false := decide_eq_false g2
              by_cases g3 : N ≤ xb
              · have g3d : decide (N ≤ xb) = true := decide_eq_true g3
                have HF := Hid.mk' (HSH.out (by rw [HWB.out]; unfold twoB; rw [decide_eq_false (show ¬ xb < N by omega)]; simp))
                clear g3
                go_wp2_with fail
                go_ret
                exact ⟨by rw [HF.out]; rfl, HEND.out _ HB4.out⟩
              · have g3d : decide (N ≤ xb) = false := decide_eq_false g3
                by_cases g4 : xa = xb
                · have g4d : (xa == xb) = true := by simpa using g4
                  have HF := Hid.mk' (HSH.out (by rw [HWB.out]; unfold twoB; simp [g4]))
                  clear g4
                  go_wp2_with fail
                  go_ret
                  exact ⟨by rw [HF.out]; rfl, HEND.out _ HB4.out⟩
                · have g4d : (xa == xb) = false := by simpa using g4
                  by_cases g5 : xc < 1
                  · have g5d : decide (xc < 1) = true := decide_eq_true g5
                    have HF := Hid.mk' (HSH.out (by rw [HWB.out, decide_eq_false (show ¬ 1 ≤ xc by omega)]; simp))
                    clear g5
                    go_wp2_with fail
                    go_ret
                    exact ⟨by rw [HF.out]; rfl, HEND.out _ HB4.out⟩
                  · have g5d : decide (xc < 1) = false := decide_eq_false g5
                    by_cases g6 : 1000 < xc
                    · have g6d : decide (1000 < xc) = true := decide_eq_true g6
                      have HF := Hid.mk' (HSH.out (by rw [HWB.out, decide_eq_false (show ¬ xc ≤ 1000 by omega)]; simp))
                      clear g6
                      go_wp2_with fail
                      go_ret
                      exact ⟨by rw [HF.out]; rfl, HEND.out _ HB4.out⟩
                    · have g6d : decide (1000 < xc) = false := decide_eq_false g6
                      have HF : Hid (wiresB N (L.take (k + 1)) = true) := by
                        show _ = _
                        rw [HTK.out, HWB.out, decide_eq_true (show 1 ≤ xc by omega), decide_eq_true (show xc ≤ 1000 by omega)]
                        unfold twoB
                        rw [decide_eq_true (show 0 ≤ xa by omega), decide_eq_true (show xa < N by omega), decide_eq_true (show 0 ≤ xb by omega), decide_eq_true (show xb < N by omega)]
                        simp [g4]
                      clear g4
                      go_wp2_with fail
                      exact ⟨⟨k + 1, h5, by go_num, HF, HB4⟩, by simp [intOf]; omega⟩
      · obtain rfl : k = L.length := by omega
        rw [List.take_length] at HK
        obtain ⟨M, hM⟩ : ∃ M : Nat, N = (M : Int) := ⟨N.toNat, by have := HNB.out; omega⟩
        have hnb := HNB.out
        rw [hM] at hnb
        have hj := joinedTo_any M (.slice ad L.length cap) L wr (HL.out wr HB.out) hnb.2.2 (by omega) (by omega) (fun x hx => by have := wireB_parts (wiresB_mem HK.out x hx); rw [hM] at this; exact ⟨this.1, this.2.1, this.2.2.1, this.2.2.2.1, this.2.2.2.2.1⟩)
        rw [← hM] at hj
        have HR2 : Hid (nwE N L = if joinV L.length N L then 0 else 6) := by show _ = _; rw [HR.out, HK.out]; rfl
        generalize joinV L.length N L = J at *
        clear hM hnb
        go_wp2_with fail
        refine hj.mono ?_
        clear hj q0 q1
        rintro e w6 ⟨rfl, hb6⟩
        have HB6 := Hid.mk' (below_chain HB.out hb6)
        clear hb6
        cases J with
        | false =>
          have HF : Hid (nwE N L = 6) := by show _ = _; rw [HR2.out]; rfl
          go_wp2_with fail
          go_ret
          exact ⟨by rw [HF.out]; rfl, HEND.out _ HB6.out⟩
        | true =>
          have HF : Hid (nwE N L = 0) := by show _ = _; rw [HR2.out]; rfl
          go_wp2_with fail
          go_ret
          exact ⟨by rw [HF.out]; rfl, HEND.out _ HB6.out⟩
end Go.Proofs.YtlnhpkmcinohdaaDoor

/- The law's thin and net; the program's Short; SameNet. -/
namespace Go.Proofs.YtlnhpkmcinohdaaDoor
open Go.RowKit

theorem thin_any (N : Int) (ad : Option Addr) (n cap : Nat) (hn : n ≤ maxLen) (w : World) :
    Calls Tryd.prog 6 #[.agg #[.int .i64 N, .slice ad n cap]] w fun e w' => e = .returned (.bool (decide (n ≤ 100))) ∧ Below w.heap.size w w' := by
  unfold maxLen at hn
  by_cases h : n ≤ 100
  · rw [decide_eq_true h]
    go_enter Tryd.func6, Tryd.ntmps6
    go_wp2
    go_ret
    exact ⟨ret_bool (by simp; omega), (Below.refl _ _).alloc (Nat.le_refl _) _⟩
  · rw [decide_eq_false h]
    go_enter Tryd.func6, Tryd.ntmps6
    go_wp2
    go_ret
    exact ⟨ret_bool (by simp; omega), (Below.refl _ _).alloc (Nat.le_refl _) _⟩

set_option maxRecDepth 100000 in
set_option maxHeartbeats 8000000 in
theorem net_any (N : Int) (v : Value) (L : List Wr) (w : World) (h : WrAt w v L) (hl : L.length ≤ 1000) :
    Calls Tryd.prog 10 #[.agg #[.int .i64 N, v]] w fun e w' => ∃ v', e = .returned (.agg #[.int .i64 N, v']) ∧ WrAt w' v' L ∧ Below w.heap.size w w' := by
  obtain ⟨ad, cap, rfl⟩ := h.form
  have HL := Hid.mk' (fun (W : World) (hb : Below w.heap.size w W) => h.later hb)
  obtain ⟨i, hi', hi2⟩ := Option.map_eq_some_iff.1 Tryd.infoWire
  obtain ⟨hz, hsz, hby⟩ : i.zero = some (.agg #[.int .i64 0, .int .i64 0, .int .i64 0]) ∧ i.size = 3 ∧ i.bytes = 24 := by simpa using hi2
  have HINF := Hid.mk' (And.intro hi' (And.intro hz (And.intro hsz hby)))
  clear hi' hi2 hz hsz hby h
  obtain ⟨W3, hW3⟩ : ∃ W3, W3 = (((w.alloc (.cells #[.int .i64 N, .slice ad L.length cap] 24)).alloc (.cells #[.int .i64 0, .slice none 0 0] 34)).alloc (.cells #[.int .i64 N, .slice none 0 0] 34)) := ⟨_, rfl⟩
  have hR0 : RenAt 47 w W3 (w.heap.size + 3) (w.heap.size + 1 + 1) (w.heap.size + 1) N (.slice none 0 0) [] := by
    rw [hW3]
    refine ⟨(((Below.refl _ _).alloc (Nat.le_refl _) _).alloc (by simp) _).alloc (by simp; omega) _, by simp, ⟨by omega, by omega, by omega, by omega, by omega⟩, ?_, ?_, ?_, ?_, ?_, ⟨?_, ?_⟩, World.ownsRow_nil _ _ _ _⟩
    all_goals go_simp
  obtain ⟨bx, hbx⟩ : ∃ bx, bx = w.heap.size := ⟨_, rfl⟩
  have g0 : W3.cell? ⟨bx, 1, none⟩ = some (.slice ad L.length cap) := by rw [hW3, hbx]; go_simp
  have HBX : Hid (bx < w.heap.size + 1) := by show _ < _; omega
  have HR0 := Hid.mk' hR0
  clear hR0
  go_enter Tryd.func10, Tryd.ntmps10
  go_upto_region 2 with fail
  rw [← hW3]
  have HB3 : Hid (bx ≠ w.heap.size + 1 + 1 ∧ bx < w.heap.size + 3) := by show _ ∧ _; omega
  clear hW3
  generalize w.heap.size + 3 = B at *
  generalize w.heap.size + 1 + 1 = ob at *
  generalize w.heap.size + 1 = rb at *
  rw [← hbx]
  clear hbx
  have HG0 := Hid.mk' g0
  clear g0
  go_wp2_with fail
  go_loopw [4] (fun t wr => ∃ (k : Nat) (sv : Value), k ≤ L.length ∧ t = .int .i64 (k : Int) ∧ Hid (RenAt 47 w wr B ob rb N sv (L.take k)) ∧ Hid (wr.cell? ⟨bx, 1, none⟩ = some (.slice ad L.length cap))) (fun t _ => L.length - (intOf t).toNat)
  case atStart => exact ⟨0, _, Nat.zero_le _, rfl, HR0.out, HG0.out⟩
  case round =>
    clear HR0 HG0
    obtain ⟨k, sv, hk, rfl, HR, HG⟩ := hrel
    have g0 := HG.out
    rcases Nat.lt_or_ge k L.length with h5 | h5
    · obtain ⟨lt, hlt⟩ : ∃ lt, lt = L.take k := ⟨_, rfl⟩
      rw [← hlt] at HR
      obtain ⟨sa, sc, rfl⟩ := own_formW HR.out.own
      obtain ⟨x, hx⟩ : ∃ x, L[k]? = some x := ⟨_, List.getElem?_eq_getElem h5⟩
      obtain ⟨b, o, rfl, x0, x1, x2⟩ := (HL.out wr HR.out.below).at hx
      have HTK : Hid (L.take (k + 1) = lt ++ [x]) := by
        show _ = _
        rw [hlt]
        obtain ⟨hi, rfl⟩ := List.getElem?_eq_some_iff.1 hx
        exact List.take_succ_eq_append_getElem hi
      have hkI : (k : Int) < (L.length : Int) := by omega
      have hk0 : (0 : Int) ≤ (k : Int) := by omega
      have c1 := HR.out.c1
      have HKS : Hid (∀ W, Below wr.heap.size wr W → W.cell? ⟨bx, 1, none⟩ = some (.slice (some ⟨b, o, none⟩) L.length cap) ∧ W.cell? ⟨b, o + k * 3, none⟩ = some (.int .i64 x.a) ∧ W.cell? ⟨b, o + k * 3 + 1, none⟩ = some (.int .i64 x.b) ∧ W.cell? ⟨b, o + k * 3 + 2, none⟩ = some (.int .i64 x.c) ∧ W.cell? ⟨ob, 1, none⟩ = some (.slice sa lt.length sc)) := fun W hb => ⟨by rw [hb.cell (cell_lt g0)]; exact g0, by rw [hb.cell (cell_lt x0)]; exact x0, by rw [hb.cell (cell_lt x1)]; exact x1, by rw [hb.cell (cell_lt x2)]; exact x2, by rw [hb.cell (cell_lt c1)]; exact c1⟩
      have HSL : Hid (lt.length ≤ 1000) := by show _ ≤ _; rw [hlt, List.length_take]; omega
      have HXX := Hid.mk' hx
      have HRd := Hid.mk' (HR.out.later (Below.refl wr.heap.size wr).drew)
      have hcur : Below wr.heap.size wr wr.drew := (Below.refl _ _).drew
      have HBXl : Hid (bx < wr.heap.size) := cell_lt g0
      clear hlt hx HR HG x0 x1 x2 c1
      go_wp2_with fail
      clear g0
      refine region_but_last (n := 24) (S := fun W => W.cell? ⟨bx, 1, none⟩ = some (.slice (some ⟨b, o, none⟩) L.length cap) ∧ W.cell? ⟨b, o + k * 3, none⟩ = some (.int .i64 x.a) ∧ W.cell? ⟨b, o + k * 3 + 1, none⟩ = some (.int .i64 x.b) ∧ W.cell? ⟨b, o + k * 3 + 2, none⟩ = some (.int .i64 x.c) ∧ W.cell? ⟨ob, 1, none⟩ = some (.slice sa lt.length sc)) (by kernel_rfl) (by kernel_rfl) (by kernel_rfl) (HKS.out _ hcur) (fun hHeld => ?_)
      have HKD := Hid.mk' (fun (W : World) (hb : Below wr.drew.heap.size wr.drew W) => HKS.out W (below_chain hcur hb))
      generalize wr.drew = Wd at *
      refine wpAnyH_take (i := 0) (v := ?v0) rfl (by kernel_rfl) (by kernel_rfl) (by kernel_rfl) (fun _ _ _ h => h) (Or.inl ⟨by rfl, ?hy0⟩) (by assumption) ?rest0
      case hy0 => (intro w hSw; (try dsimp only at hSw); go_simp <;> (try with_reducible rfl))
      simp only [Act.put]
      refine wpAnyH_take (i := 1) (v := ?v1) rfl (by kernel_rfl) (by kernel_rfl) (by kernel_rfl) (fun _ _ _ h => h) (Or.inl ⟨by rfl, ?hy1⟩) (by assumption) ?rest1
      case hy1 => (intro w hSw; (try dsimp only at hSw); go_simp <;> (try with_reducible rfl))
      simp only [Act.put]
      refine wpAnyH_take (i := 2) (v := ?v2) rfl (by kernel_rfl) (by kernel_rfl) (by kernel_rfl) (fun _ _ _ h => h) (Or.inl ⟨by rfl, ?hy2⟩) (by assumption) ?rest2
      case hy2 => (intro w hSw; (try dsimp only at hSw); go_simp <;> (try with_reducible rfl))
      simp only [Act.put]
      refine wpAnyH_take (i := 3) (v := ?v3) rfl (by kernel_rfl) (by kernel_rfl) (by kernel_rfl) (fun _ _ _ h => h) (Or.inl ⟨by rfl, ?hy3⟩) (by assumption) ?rest3
      case hy3 => (intro w hSw; (try dsimp only at hSw); go_simp <;> (try with_reducible rfl))
      simp only [Act.put]
      refine wpAnyH_take (i := 4) (v := ?v4) rfl (by kernel_rfl) (by kernel_rfl) (by kernel_rfl) (fun _ _ _ h => h) (Or.inl ⟨by rfl, ?hy4⟩) (by assumption) ?rest4
      case hy4 => (intro w hSw; (try dsimp only at hSw); go_simp <;> (try with_reducible rfl))
      simp only [Act.put]
      refine wpAnyH_take (i := 5) (v := ?v5) rfl (by kernel_rfl) (by kernel_rfl) (by kernel_rfl) (fun _ _ _ h => h) (Or.inl ⟨by rfl, ?hy5⟩) (by assumption) ?rest5
      case hy5 => (intro w hSw; (try dsimp only at hSw); go_simp <;> (try with_reducible rfl))
      simp only [Act.put]
      refine wpAnyH_take (i := 6) (v := ?v6) rfl (by kernel_rfl) (by kernel_rfl) (by kernel_rfl) (fun _ _ _ h => h) (Or.inl ⟨by rfl, ?hy6⟩) (by assumption) ?rest6
      case hy6 => (intro w hSw; (try dsimp only at hSw); go_simp <;> (try with_reducible rfl))
      simp only [Act.put]
      refine wpAnyH_take (i := 7) (v := ?v7) rfl (by kernel_rfl) (by kernel_rfl) (by kernel_rfl) (fun _ _ _ h => h) (Or.inl ⟨by rfl, ?hy7⟩) (by assumption) ?rest7
      case hy7 => (intro w hSw; (try dsimp only at hSw); go_simp <;> (try with_reducible rfl))
      simp only [Act.put]
      refine wpAnyH_take (i := 8) (v := ?v8) rfl (by kernel_rfl) (by kernel_rfl) (by kernel_rfl) (fun _ _ _ h => h) (Or.inl ⟨by rfl, ?hy8⟩) (by assumption) ?rest8
      case hy8 => (intro w hSw; (try dsimp only at hSw); go_simp <;> (try with_reducible rfl))
      simp only [Act.put]
      refine wpAnyH_take (i := 9) (v := ?v9) rfl (by kernel_rfl) (by kernel_rfl) (by kernel_rfl) (fun _ _ _ h => h) (Or.inl ⟨by rfl, ?hy9⟩) (by assumption) ?rest9
      case hy9 => (intro w hSw; (try dsimp only at hSw); go_simp <;> (try with_reducible rfl))
      simp only [Act.put]
      refine wpAnyH_take (i := 10) (v := ?v10) rfl (by kernel_rfl) (by kernel_rfl) (by kernel_rfl) (fun _ _ _ h => h) (Or.inl ⟨by rfl, ?hy10⟩) (by assumption) ?rest10
      case hy10 => (intro w hSw; (try dsimp only at hSw); go_simp <;> (try with_reducible rfl))
      simp only [Act.put]
      refine wpAnyH_take (i := 11) (v := ?v11) rfl (by kernel_rfl) (by kernel_rfl) (by kernel_rfl) (fun _ _ _ h => h) (Or.inl ⟨by rfl, ?hy11⟩) (by assumption) ?rest11
      case hy11 => (intro w hSw; (try dsimp only at hSw); go_simp <;> (try with_reducible rfl))
      simp only [Act.put]
      refine wpAnyH_take (i := 12) (v := ?v12) rfl (by kernel_rfl) (by kernel_rfl) (by kernel_rfl) (fun _ _ _ h => h) (Or.inl ⟨by rfl, ?hy12⟩) (by assumption) ?rest12
      case hy12 => (intro w hSw; (try dsimp only at hSw); go_simp <;> (try with_reducible rfl))
      simp only [Act.put]
      refine wpAnyH_take (i := 13) (v := ?v13) rfl (by kernel_rfl) (by kernel_rfl) (by kernel_rfl) (fun _ _ _ h => h) (Or.inl ⟨by rfl, ?hy13⟩) (by assumption) ?rest13
      case hy13 => (intro w hSw; (try dsimp only at hSw); go_simp <;> (try with_reducible rfl))
      simp only [Act.put]
      refine wpAnyH_take (i := 14) (v := ?v14) rfl (by kernel_rfl) (by kernel_rfl) (by kernel_rfl) (fun _ _ _ h => h) (Or.inl ⟨by rfl, ?hy14⟩) (by assumption) ?rest14
      case hy14 => (intro w hSw; (try dsimp only at hSw); go_simp <;> (try with_reducible rfl))
      simp only [Act.put]
      refine wpAnyH_take (i := 15) (v := ?v15) rfl (by kernel_rfl) (by kernel_rfl) (by kernel_rfl) (fun _ _ _ h => h) (Or.inl ⟨by rfl, ?hy15⟩) (by assumption) ?rest15
      case hy15 => (intro w hSw; (try dsimp only at hSw); go_simp <;> (try with_reducible rfl))
      simp only [Act.put]
      refine wpAnyH_take (i := 16) (v := ?v16) rfl (by kernel_rfl) (by kernel_rfl) (by kernel_rfl) (fun _ _ _ h => h) (Or.inl ⟨by rfl, ?hy16⟩) (by assumption) ?rest16
      case hy16 => (intro w hSw; (try dsimp only at hSw); go_simp <;> (try with_reducible rfl))
      simp only [Act.put]
      refine wpAnyH_take (i := 17) (v := ?v17) rfl (by kernel_rfl) (by kernel_rfl) (by kernel_rfl) (fun _ _ _ h => h) (Or.inl ⟨by rfl, ?hy17⟩) (by assumption) ?rest17
      case hy17 => (intro w hSw; (try dsimp only at hSw); go_simp <;> (try with_reducible rfl))
      simp only [Act.put]
      refine wpAnyH_take (i := 18) (v := ?v18) rfl (by kernel_rfl) (by kernel_rfl) (by kernel_rfl) (fun _ _ _ h => h) (Or.inl ⟨by rfl, ?hy18⟩) (by assumption) ?rest18
      case hy18 => (intro w hSw; (try dsimp only at hSw); go_simp <;> (try with_reducible rfl))
      simp only [Act.put]
      refine wpAnyH_take (i := 19) (v := ?v19) rfl (by kernel_rfl) (by kernel_rfl) (by kernel_rfl) (fun _ _ _ h => h) (Or.inl ⟨by rfl, ?hy19⟩) (by assumption) ?rest19
      case hy19 => (intro w hSw; (try dsimp only at hSw); go_simp <;> (try with_reducible rfl))
      simp only [Act.put]
      refine wpAnyH_take (i := 20) (v := ?v20) rfl (by kernel_rfl) (by kernel_rfl) (by kernel_rfl) (fun _ _ _ h => h) (Or.inl ⟨by rfl, ?hy20⟩) (by assumption) ?rest20
      case hy20 => (intro w hSw; (try dsimp only at hSw); go_simp <;> (try with_reducible rfl))
      simp only [Act.put]
      refine wpAnyH_ready (rs := [21]) (by kernel_rfl) (by simp) ?_
      refine AllReadyH.cons rfl (fun K hK => ?_) AllReadyH.nil
      go_simp
      have hba : Below Wd.heap.size Wd (Wd.alloc (.cells #[.int .i64 x.a, .int .i64 x.b, .int .i64 x.c] 47)) := (Below.refl _ _).alloc (Nat.le_refl _) _
      have HRa := Hid.mk' (HRd.out.later hba)
      have HNW := Hid.mk' (three_newW Wd (.int .i64 x.a) (.int .i64 x.b) (.int .i64 x.c) 47)
      have HSa := Hid.mk' (HKD.out _ hba)
      refine hK.out _ _ HSa.out (fun hHeld => ?_)
      have HKA := Hid.mk' (fun (W : World) (hb : Below (Wd.alloc (.cells #[.int .i64 x.a, .int .i64 x.b, .int .i64 x.c] 47)).heap.size (Wd.alloc (.cells #[.int .i64 x.a, .int .i64 x.b, .int .i64 x.c] 47)) W) => HKD.out W (below_chain hba hb))
      clear hK K hba HRd HKD
      generalize Wd.alloc (.cells #[.int .i64 x.a, .int .i64 x.b, .int .i64 x.c] 47) = Wa at *
      generalize Wd.heap.size = nb at *
      have hsz := HRa.out.hB
      refine wpAnyH_ready (rs := [22]) (by kernel_rfl) (by simp) ?_
      refine AllReadyH.cons rfl (fun K hK => ?_) AllReadyH.nil
      refine step_append_lies _ rfl _ _ _ rfl B 47 i _ 3 24 Tryd.underlying32 HINF.out.1 HINF.out.2.1 HINF.out.2.2.1 HINF.out.2.2.2 rfl (by omega) (.slice sa lt.length sc) lt.length (wrsC lt) (by rfl) HRa.out.own ⟨nb, 0, none⟩ 1 1 [.int .i64 x.a, .int .i64 x.b, .int .i64 x.c] rfl rfl HNW.out (by simp [Value.oneCell']) (by omega) (by have := HSL.out; unfold maxLen; omega) (by have := HSL.out; omega) hsz _ rfl ?_
      intro g' cap' w9 hown9 hgrow9 hat9 hlt9
      obtain ⟨p0, p1, pf, hR9⟩ := HRa.out.push x hgrow9 hown9
      have HR9 := Hid.mk' hR9
      have hblk : ∀ q, q < B → w9.heap[q]? = Wa.heap[q]? := fun q hq => hgrow9.block q (Nat.lt_of_lt_of_le hq hsz) (fun e => by have := (own_geW HRa.out.own e.symm).1; omega)
      have hg9 : w9.cell? ⟨bx, 1, none⟩ = some (.slice (some ⟨b, o, none⟩) L.length cap) := by rw [World.cell?_of_block (a := ⟨bx, 1, none⟩) (hblk bx HB3.out.2)]; exact HSa.out.1
      obtain ⟨b', o', e', y0, y1, y2⟩ := (HL.out w9 (HRa.out.below.grown hgrow9 HRa.out.below.size (fun q hq => by have := (own_geW HRa.out.own hq).1; have := HRa.out.lt; omega))).at (show L[k]? = some x from HXX.out)
      obtain ⟨rfl, rfl⟩ : b = b' ∧ o = o' := by simpa using e'
      refine hK.out _ _ ⟨hg9, y0, y1, y2, p1⟩ (fun hHeld => ?_)
      have HG9 : Hid ((w9.setCell ⟨ob, 1, none⟩ (.slice (some ⟨g', 0, none⟩) (lt.length + 1) cap')).cell? ⟨bx, 1, none⟩ = some (.slice (some ⟨b, o, none⟩) L.length cap)) := by show _ = _; rw [World.cell?_setCell_other _ _ _ _ (fun e => HB3.out.1 (congrArg Addr.block e).symm)]; exact hg9
      clear hK K hown9 hgrow9 hat9 hlt9 hR9 hblk y0 y1 y2 hg9 HKA HSa HNW e'
      simp only [Act.put, List.getElem_toArray, List.getElem_cons_succ, List.getElem_cons_zero, List.setIfInBounds_toArray, List.set_cons_succ, List.set_cons_zero]
      refine wpAnyH_take (i := 23) (v := ?v23) rfl (by kernel_rfl) (by kernel_rfl) (by kernel_rfl) (fun _ _ _ h => h) (Or.inl ⟨by rfl, ?hy23⟩) (by assumption) ?rest23
      case hy23 => (intro w hSw; (try dsimp only at hSw); go_simp <;> (try with_reducible rfl))
      simp only [Act.put]
      refine wpAnyH_done (by kernel_rfl) ?_ _
      refine ahead_last rfl (fun K hK => ?_)
      go_simp
      refine hK _ _ ?_
      clear hK K
      go_wp2_with fail
      exact ⟨⟨k + 1, _, h5, by go_num, by show RenAt _ _ _ _ _ _ _ _ _; rw [HTK.out]; exact HR9.out, HG9.out⟩, by simp [intOf]; omega⟩
    · obtain rfl : k = L.length := by omega
      rw [List.take_length] at HR
      obtain ⟨sa, sc, hse⟩ := own_formW HR.out.own
      subst hse
      obtain ⟨f1, f2, f3, f4, f5, f6⟩ := HR.out.fin
      have q0 := HR.out.c0
      have q1 := HR.out.c1
      have q2 := HR.out.r0
      have q4 := HR.out.rz.1
      have q5 := HR.out.rz.2
      have HF := Hid.mk' (And.intro f1 f2)
      have HF4 := Hid.mk' (And.intro f4 f5)
      clear f1 f2 f4 f5 f6 HR
      go_wp2_with fail
      exact bodyPost_ret (v := .agg #[.int .i64 N, .slice sa L.length sc]) (by simp [results, Tryd.results10, go_sem, HF4.out.1, HF4.out.2]) rfl ⟨_, rfl, HF.out.1, HF.out.2⟩
end Go.Proofs.YtlnhpkmcinohdaaDoor

/- The document's SameInts at equal ones. -/
namespace Go.Proofs.YtlnhpkmcinohdaaDoor
open Go.RowKit

set_option maxRecDepth 100000 in
set_option maxHeartbeats 1000000 in
theorem SameInts_any (v u : Value) (n : Nat) (z : Nat → Int) (w : World) (h : NumsAt w v n z) (k : NumsAt w u n z) (hn : n ≤ 1000000) :
    Calls Tryd.prog 27 #[v, u] w fun e w' => e = .returned (.bool true) ∧ Below w.heap.size w w' := by
  rcases h with ⟨ad, cap, rfl, rfl⟩ | ⟨b, o, cap, rfl, h0, hr⟩
  · obtain ⟨ad', cap', rfl⟩ := k.form
    clear k
    go_enter Tryd.func27, Tryd.ntmps27
    go_wp2_with fail
    refine wp_loop_rounds 1 ?_
    rw [rounds_succ]
    go_wp2_with fail
    go_ret
    exact ⟨rfl, Below.refl _ _⟩
  · rcases k with ⟨_, _, _, h1⟩ | ⟨b', o', cap', rfl, _, kr⟩
    · omega
    · have HR := Hid.mk' hr
      have HK := Hid.mk' kr
      clear hr kr
      go_enter Tryd.func27, Tryd.ntmps27
      go_wp2_with fail
      go_loopw [5] (fun i wr => ∃ k : Nat, k ≤ n ∧ i = .int .i64 k ∧ Hid (Below w.heap.size w wr)) (fun i _ => n - (intOf i).toNat)
      case atStart => exact ⟨0, Nat.zero_le _, rfl, Below.refl _ _⟩
      case round =>
        obtain ⟨k, hk, rfl, HB⟩ := hrel
        rcases Nat.lt_or_ge k n with h1 | h1
        · have hc := (HR.out.later HB.out) k h1
          have hd := (HK.out.later HB.out) k h1
          have hkn : (k : Int) < (n : Int) := by omega
          go_wp2_with fail
          go_region
          all_goals
            go_wp2_with fail
            exact ⟨⟨k + 1, h1, by go_num, HB.out.drew⟩, by simp [intOf]; omega⟩
        · obtain rfl : k = n := by omega
          go_wp2_with fail
          go_ret
          exact ⟨rfl, HB.out⟩
end Go.Proofs.YtlnhpkmcinohdaaDoor
