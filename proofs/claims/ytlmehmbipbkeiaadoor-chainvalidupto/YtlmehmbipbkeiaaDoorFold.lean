/- chain.fold, walked. -/
import Derived.Test.YtlmehmbipbkeiaaDoorFoldC
import Derived.Deep.DeepCutAuto
namespace Go.Proofs.YtlmehmbipbkeiaaDoor
open Go.RowKit

theorem Tryd.infoNats : (Tryd.prog.info? 48).map (fun i => (i.zero, i.size, i.bytes)) = some (some (.slice none 0 0), 1, 24) := by kernel_rfl
set_option maxRecDepth 100000 in
theorem Total_some (b o cap n : Nat) (z : Nat → Int) (w : World) (h : RowAt w b o n z) (hz : ∀ k, k ≤ n → -1000000 ≤ sumN z k ∧ sumN z k ≤ 1000000) (hzi : ∀ i, i < n → -1000000 ≤ z i ∧ z i ≤ 1000000) (hn : n ≤ 1000000) :
    Calls Tryd.prog 24 #[.slice (some ⟨b, o, none⟩) n cap] w fun e w' => e = .returned (.int .i64 (sumN z n)) ∧ w' = w := by
  have HR := Hid.mk' h
  have HZ := Hid.mk' hz
  have HZI := Hid.mk' hzi
  clear h hz hzi
  go_enter Tryd.func24, Tryd.ntmps24
  go_wp2_with fail
  go_loopw [3, 8] (fun s i wr => ∃ k : Nat, k ≤ n ∧ s = .int .i64 (sumN z k) ∧ i = .int .i64 k ∧ wr = w) (fun _ i _ => n - (intOf i).toNat)
  case atStart => exact ⟨0, Nat.zero_le _, rfl, rfl, rfl⟩
  case round =>
    obtain ⟨k, hk, rfl, rfl, rfl⟩ := hrel
    rcases Nat.lt_or_ge k n with h1 | h1
    · have hc := HR.out k h1
      have hs1 := HZ.out k hk
      have hs2 := HZ.out (k + 1) h1
      have hs3 := HZI.out k h1
      have HE : Hid (sumN z (k + 1) = sumN z k + z k) := rfl
      have hkn : (k : Int) < (n : Int) := by omega
      obtain ⟨x, hx⟩ : ∃ x, x = z k := ⟨_, rfl⟩
      rw [← hx] at hc hs3 HE
      obtain ⟨s, hs⟩ : ∃ s, s = sumN z k := ⟨_, rfl⟩
      rw [← hs] at hs1 HE ⊢
      clear hx hs
      go_wp2_with fail
      exact ⟨⟨k + 1, h1, by rw [HE.out], by go_num, trivial⟩, by simp [intOf]; omega⟩
    · obtain rfl : k = n := by omega
      go_wp2_with fail
      go_ret
      exact ⟨rfl, rfl⟩

theorem lenAt_next (n i k r : Nat) : lenAt n i (k + 1) r = if r = i then lenAt n i k i + 1 else lenAt n i k r := by
  unfold lenAt
  by_cases h : r = i
  · subst h; simp
  · simp [h]
theorem lenAt_own (n i k : Nat) : lenAt n i k i = k := by unfold lenAt; simp
theorem lenAt_row (n i r : Nat) : lenAt n (i + 1) 0 r = lenAt n i n r := by
  unfold lenAt
  by_cases h : r < i
  · rw [if_pos h, if_pos (by omega)]
  · rw [if_neg h]
    by_cases h2 : r = i
    · rw [if_pos h2, if_pos (by omega)]
    · rw [if_neg h2, if_neg (by omega)]; split <;> rfl
theorem Build.congr {w0 wr : World} {B n g gt go fb : Nat} {len len' : Nat → Nat} {rv : Nat → Value} {f : Nat → Nat → Value} {tf : Nat → Value} {V V' : Nat → Nat → Nat} {T T' : Nat → Nat} (h : Build w0 wr B n g gt go fb len rv f tf V T) (hl : ∀ r, len' r = len r) (hV : ∀ r k, r < n → k < len r → V' r k = V r k) (hT : ∀ r, r < n → T' r = T r) : Build w0 wr B n g gt go fb len' rv f tf V' T' := by
  obtain rfl : len' = len := funext hl
  exact ⟨h.below, h.size, h.outer, h.own, h.sep, fun r k hr hk => by rw [hV r k hr hk]; exact h.nats r k hr hk, h.off, h.times, fun r hr => by rw [hT r hr]; exact h.tnats r hr, h.toff, h.outs, h.c0, h.c1, h.c2⟩
/-- The chain of some states, before any is taken out. -/
def fold0 (l : List Nat) (zs : Nat → Nat → Int) (N n i k : Nat) : Nat := if i < n then (zs (l.getD i 0) (l.getD k 0)).toNat else if i = n then (sumN (zs (l.getD k 0)) N).toNat else 0
/-- All from s on are taken out. -/
def downTo (n : Nat) (V : Nat → Nat → Nat) : Nat → Nat → Nat → Nat → Nat
  | 0, _ => V
  | c + 1, s => takeV n s (downTo n V c (s + 1))

theorem FoldAt.rebase {w0 W0 wr : World} {n g : Nat} {rb cp : Nat → Nat} {f : Nat → Nat → Value} {V : Nat → Nat → Nat} (h : FoldAt W0 wr n g rb cp f V) (hb : Below w0.heap.size w0 W0) : FoldAt w0 wr n g rb cp f V :=
  ⟨below_chain hb h.below, Nat.le_trans hb.size h.hg, h.outer, fun i hi => ⟨Nat.le_trans hb.size (h.rge i hi).1, (h.rge i hi).2⟩, h.inj, h.rows, h.nats⟩
theorem FoldAt.aside {w wr : World} {n g p j : Nat} {rb cp : Nat → Nat} {f : Nat → Nat → Value} {V : Nat → Nat → Nat} {ad : Option Addr} {l c : Nat} (h : FoldAt w wr n g rb cp f V) (hp : w.heap.size ≤ p) (hg : g ≠ p) (hr : ∀ i, i < n + 2 → rb i ≠ p) (hx : wr.cell? ⟨p, j, none⟩ = some (.slice ad l c)) (y : Value) : FoldAt w (wr.setCell ⟨p, j, none⟩ y) n g rb cp f V :=
  ⟨h.below.setCell hp _, h.hg, fun i hi => by rw [cell_put _ hx, if_neg (fun e => hg (congrArg Addr.block e))]; exact h.outer i hi, h.rge, h.inj, fun i hi => (h.rows i hi).put hx (hr i hi) y, fun i k hi hk => (h.nats i k hi hk).putS hx⟩
theorem Build.fold {w0 wr : World} {B n g gt go fb : Nat} {rv : Nat → Value} {f : Nat → Nat → Value} {tf : Nat → Value} {V : Nat → Nat → Nat} (h : Build w0 wr B n g gt go fb (lenAt n n 0) rv f tf V (fun r => if r < n then V n r else 0)) (hF : Fixed w0 B g gt go fb) (hn0 : 0 < n) (hV : ∀ k, k < n → V (n + 1) k = 0) :
    ∃ rb cp f', rb n = gt ∧ rb (n + 1) = go ∧ (∀ i, i < n + 2 → fb ≠ rb i) ∧ FoldAt w0 wr n g rb cp f' V := by
  have hlen : ∀ r, r < n → lenAt n n 0 r = n := fun r hr => by unfold lenAt; rw [if_pos hr]
  have hsl : ∀ r, r < n → ∃ q cap, rv r = .slice (some ⟨q, 0, none⟩) n cap ∧ B ≤ q ∧ q < wr.heap.size := fun r hr => by
    have ho := h.own r hr
    rw [hlen r hr] at ho
    rcases ho.2 with ⟨_, h0⟩ | ⟨q, cap, cur, hv, hq, hh, _⟩
    · omega
    · exact ⟨q, cap, hv, hq, heap_lt hh⟩
  obtain ⟨n1, n2, n3, n4, n5, n6⟩ := hF.ne
  have hob : ∀ r, r < n → ∃ q cap, rv r = .slice (some ⟨q, 0, none⟩) n cap ∧ B ≤ q ∧ (rv r).ownBlock = some q := fun r hr => by
    obtain ⟨q, cap, e, h1, _⟩ := hsl r hr
    exact ⟨q, cap, e, h1, by rw [e]; rfl⟩
  let rb : Nat → Nat := fun r => if r < n then ((rv r).ownBlock).getD 0 else if r = n then gt else go
  let cp : Nat → Nat := fun r => match rv r with | .slice _ _ c => c | _ => 0
  have hrb : ∀ r q, r < n → (rv r).ownBlock = some q → rb r = q := fun r q hr hq => by show (if r < n then _ else _) = q; rw [if_pos hr, hq]; rfl
  have hrn : rb n = gt := by show (if n < n then _ else if n = n then gt else go) = gt; rw [if_neg (by omega), if_pos rfl]
  have hro : rb (n + 1) = go := by show (if n + 1 < n then _ else if n + 1 = n then gt else go) = go; rw [if_neg (by omega), if_neg (by omega)]
  have hcase : ∀ i, i < n + 2 → i < n ∨ i = n ∨ i = n + 1 := fun i hi => by omega
  refine ⟨rb, cp, fun i k => if i < n then f i k else if i = n then tf k else .slice none 0 0, hrn, hro, fun i hi => ?_, ⟨h.below, hF.ge.1, fun i hi => ?_, fun i hi => ?_, fun i j hi hj e => ?_, fun i hi => ?_, fun i k hi hk => ?_⟩⟩
  · rcases hcase i hi with h1 | rfl | rfl
    · obtain ⟨q, cap, e, hq, hb⟩ := hob i h1
      rw [hrb i q h1 hb]; have := hF.lt.2.2.2; omega
    · rw [hrn]; exact Ne.symm n5
    · rw [hro]; exact Ne.symm n6
  · obtain ⟨q, cap, e, hq, hb⟩ := hob i hi
    rw [hrb i q hi hb, h.outer.row i hi, e]
    show _ = some (Value.slice _ n (match rv i with | .slice _ _ c => c | _ => 0))
    rw [e]
  · rcases hcase i hi with h1 | rfl | rfl
    · obtain ⟨q, cap, e, hq, hb⟩ := hob i h1
      rw [hrb i q h1 hb]; have := hF.lt.1; have := hF.ge.1; exact ⟨by omega, by omega⟩
    · rw [hrn]; exact ⟨hF.ge.2.1, Ne.symm n1⟩
    · rw [hro]; exact ⟨hF.ge.2.2.1, Ne.symm n2⟩
  · rcases hcase i hi with h1 | rfl | rfl
    · obtain ⟨q, cap, e1, hq, hb⟩ := hob i h1
      rw [hrb i q h1 hb] at e
      rcases hcase j hj with h2 | rfl | rfl
      · obtain ⟨q', cap', e2, hq', hb'⟩ := hob j h2
        rw [hrb j q' h2 hb'] at e
        rcases Nat.lt_trichotomy i j with h3 | h3 | h3
        · exact absurd (by rw [hb', ← e]) (h.sep i j q h1 h2 (by omega) hb)
        · exact h3
        · exact absurd (by rw [hb, e]) (h.sep j i q' h2 h1 (by omega) hb')
      · rw [hrn] at e; have := hF.lt.2.1; omega
      · rw [hro] at e; have := hF.lt.2.2.1; omega
    · rw [hrn] at e
      rcases hcase j hj with h2 | rfl | rfl
      · obtain ⟨q', cap', e2, hq', hb'⟩ := hob j h2
        rw [hrb j q' h2 hb'] at e; have := hF.lt.2.1; omega
      · rfl
      · rw [hro] at e; exact absurd e n4
    · rw [hro] at e
      rcases hcase j hj with h2 | rfl | rfl
      · obtain ⟨q', cap', e2, hq', hb'⟩ := hob j h2
        rw [hrb j q' h2 hb'] at e; have := hF.lt.2.2.1; omega
      · rw [hrn] at e; exact absurd e.symm n4
      · rfl
  · rcases hcase i hi with h1 | rfl | rfl
    · obtain ⟨q, cap, e, hq, hb⟩ := hob i h1
      rw [hrb i q h1 hb]
      have ho := h.own i h1
      rw [hlen i h1, e] at ho
      obtain ⟨_, _, hc⟩ := ownsRow_cells ho
      exact ⟨fun k hk => by show _ = some (if i < n then _ else _); rw [if_pos h1]; exact (hc k hk).1, fun k hk => (hc k hk).2⟩
    · rw [hrn]; exact ⟨fun k hk => by show _ = some (if i < i then _ else if i = i then tf k else _); rw [if_neg (by omega), if_pos rfl]; exact h.times.row k hk, h.times.fz⟩
    · rw [hro]; exact ⟨fun k hk => by show _ = some (if n + 1 < n then _ else if n + 1 = n then tf k else _); rw [if_neg (by omega), if_neg (by omega)]; exact h.outs.row k hk, h.outs.fz⟩
  · rcases hcase i hi with h1 | rfl | rfl
    · show NatAt wr (if i < n then _ else _) _; rw [if_pos h1]; exact h.nats i k h1 (by rw [hlen i h1]; exact hk)
    · show NatAt wr (if i < i then _ else if i = i then tf k else _) _; rw [if_neg (by omega), if_pos rfl]
      have := h.tnats k hk
      rw [if_pos hk] at this; exact this
    · show NatAt wr (if n + 1 < n then _ else if n + 1 = n then tf k else _) _; rw [if_neg (by omega), if_neg (by omega), hV k hk]; exact natAt_none _
theorem put_three {W : World} {b : Nat} {x0 x1 x2 : Value} (y0 y1 y2 : Value) (h0 : W.cell? ⟨b, 0, none⟩ = some x0) (h1 : W.cell? ⟨b, 1, none⟩ = some x1) (h2 : W.cell? ⟨b, 2, none⟩ = some x2) :
    ((W.setCell ⟨b, 0, none⟩ y0).cell? ⟨b, 1, none⟩ = some x1 ∧ ((W.setCell ⟨b, 0, none⟩ y0).setCell ⟨b, 1, none⟩ y1).cell? ⟨b, 2, none⟩ = some x2) ∧
    ((((W.setCell ⟨b, 0, none⟩ y0).setCell ⟨b, 1, none⟩ y1).setCell ⟨b, 2, none⟩ y2).cell? ⟨b, 0, none⟩ = some y0 ∧ (((W.setCell ⟨b, 0, none⟩ y0).setCell ⟨b, 1, none⟩ y1).setCell ⟨b, 2, none⟩ y2).cell? ⟨b, 1, none⟩ = some y1) ∧
    (((W.setCell ⟨b, 0, none⟩ y0).setCell ⟨b, 1, none⟩ y1).setCell ⟨b, 2, none⟩ y2).cell? ⟨b, 2, none⟩ = some y2 := by
  have e1 : (W.setCell ⟨b, 0, none⟩ y0).cell? ⟨b, 1, none⟩ = some x1 := by rw [cell_put _ h0, if_neg (by simp)]; exact h1
  have e2 : ((W.setCell ⟨b, 0, none⟩ y0).setCell ⟨b, 1, none⟩ y1).cell? ⟨b, 2, none⟩ = some x2 := by rw [cell_put _ e1, if_neg (by simp), cell_put _ h0, if_neg (by simp)]; exact h2
  refine ⟨⟨e1, e2⟩, ⟨?_, ?_⟩, ?_⟩
  · rw [cell_put _ e2, if_neg (by simp), cell_put _ e1, if_neg (by simp), cell_put _ h0, if_pos rfl]
  · rw [cell_put _ e2, if_neg (by simp), cell_put _ e1, if_pos rfl]
  · rw [cell_put _ e2, if_pos rfl]
/-- How great the numbers grow. -/
def bnd : Nat → Nat
  | 0 => 4097
  | c + 1 => 16 * bnd c * bnd c
theorem bnd_pos : ∀ c, 0 < bnd c
  | 0 => by decide
  | c + 1 => Nat.mul_pos (Nat.mul_pos (by decide) (bnd_pos c)) (bnd_pos c)
theorem takeV_lt {n s b : Nat} {V : Nat → Nat → Nat} (hs : s < n) (hn : n ≤ 8) (hV : ∀ i k, i < n + 2 → k < n → V i k < b) (i k : Nat) (hi : i < n + 2) (hk : k < n) : takeV n s V i k < 16 * b * b := by
  have hb : 0 < b := by have := hV i k hi hk; omega
  have hout : sumTo (V s) s ≤ 8 * b := by
    have h1 := sumTo_le (z := V s) (M := b) (n := s) (fun i hi => Nat.le_of_lt (hV s i (by omega) (by omega)))
    have h2 : s * b ≤ 8 * b := Nat.mul_le_mul_right _ (by omega)
    omega
  have hbb : b ≤ b * b := Nat.le_mul_of_pos_left b hb
  have e16 : 16 * b * b = 16 * (b * b) := Nat.mul_assoc _ _ _
  have key : ∀ x y z : Nat, x < b → y < b → z < b → x * sumTo (V s) s + y * z < 16 * b * b := fun x y z hx hy hz => by
    have h1 : x * sumTo (V s) s ≤ b * (8 * b) := Nat.mul_le_mul (Nat.le_of_lt hx) hout
    have h2 : y * z ≤ b * b := Nat.mul_le_mul (Nat.le_of_lt hy) (Nat.le_of_lt hz)
    have e8 : b * (8 * b) = 8 * (b * b) := by rw [Nat.mul_left_comm]
    omega
  unfold takeV takeTo
  split
  · omega
  · split
    · rename_i h1 h2
      exact key _ _ _ (hV i k hi hk) (hV i s hi hs) (hV s k (by omega) hk)
    · split
      · rename_i h3
        exact key _ _ _ (hV n k (by omega) hk) (hV k s (by omega) hs) (hV n s (by omega) hs)
      · have := hV i k hi hk; omega
theorem downTo_lt {n : Nat} {V : Nat → Nat → Nat} (hn : n ≤ 8) (hV : ∀ i k, i < n + 2 → k < n → V i k < 4097) : ∀ c s, s + c ≤ n → ∀ i k, i < n + 2 → k < n → downTo n V c s i k < bnd c
  | 0, _, _, i, k, hi, hk => hV i k hi hk
  | c + 1, s, hs, i, k, hi, hk => takeV_lt (by omega) hn (downTo_lt hn hV c (s + 1) (by omega)) i k hi hk
theorem bnd_mono {c d : Nat} (h : c ≤ d) : bnd c ≤ bnd d := by
  induction d with
  | zero => obtain rfl : c = 0 := by omega
            exact Nat.le_refl _
  | succ d ih =>
    rcases Nat.lt_or_ge c (d + 1) with h1 | h1
    · have h2 := ih (by omega)
      have h3 : bnd d ≤ bnd (d + 1) := by
        show bnd d ≤ 16 * bnd d * bnd d
        exact Nat.le_mul_of_pos_left _ (Nat.mul_pos (by decide) (bnd_pos d))
      omega
    · obtain rfl : c = d + 1 := by omega
      exact Nat.le_refl _
theorem bnd_room {c : Nat} (h : c ≤ 7) : bnd c < 18446744073709551616 ^ 40 := Nat.lt_of_le_of_lt (bnd_mono h) (by decide +kernel)
theorem fold0_lt {l : List Nat} {zs : Nat → Nat → Int} {N n : Nat} (hl : ∀ i, i < n → l.getD i 0 < N) (hz : ∀ i, i < N → OkW (zs i) N) (i k : Nat) (hk : k < n) : fold0 l zs N n i k < 4097 := by
  unfold fold0
  split
  · rename_i hi
    have := (hz _ (hl i hi)).lt (hl k hk)
    omega
  · split
    · have := (hz _ (hl k hk)).part (Nat.le_refl N)
      omega
    · omega

set_option maxRecDepth 100000 in
set_option maxHeartbeats 16000000 in
theorem fold_any (cv sv : Value) (N n : Nat) (zs : Nat → Nat → Int) (l : List Nat) (w : World) (hc : RowsAt w cv N zs) (hs : StatesAt w sv l) (hl : l.length = n) (hn0 : 0 < n) (hn : n ≤ 8) (hlN : ∀ x, x ∈ l → x < N) (hN : N ≤ 8) (hz : ∀ i, i < N → OkW (zs i) N) :
    Calls Tryd.prog 21 #[cv, sv] w fun e w' => ∃ g rb cp f, e = .returned (.agg #[.slice (some ⟨g, 0, none⟩) n n, .slice (some ⟨rb n, 0, none⟩) n n, .slice (some ⟨rb (n + 1), 0, none⟩) n n]) ∧ FoldAt w w' n g rb cp f (downTo n (fold0 l zs N n) (n - 1) 1) := by
  obtain ⟨i0, hi, hz0, hz1, hz2⟩ := info_parts Tryd.infoNat
  have HINF : Hid (Tryd.prog.info? 50 = some i0 ∧ i0.zero = some (.slice none 0 0) ∧ i0.size = 1 ∧ i0.bytes = 24) := ⟨hi, hz0, hz1, hz2⟩
  clear hi hz0 hz1 hz2
  obtain ⟨i1, hi, hz0, hz1, hz2⟩ := info_parts Tryd.infoNats
  have HINR : Hid (Tryd.prog.info? 48 = some i1 ∧ i1.zero = some (.slice none 0 0) ∧ i1.size = 1 ∧ i1.bytes = 24) := ⟨hi, hz0, hz1, hz2⟩
  clear hi hz0 hz1 hz2
  obtain ⟨sb, so, sc, rfl⟩ : ∃ sb so sc, sv = .slice (some ⟨sb, so, none⟩) n sc := by
    rcases hs with ⟨_, _, _, h0⟩ | ⟨b, o, c, h1, _, _⟩
    · omega
    · rw [hl] at h1; exact ⟨b, o, c, h1⟩
  have HSR : Hid (∀ W, Below w.heap.size w W → ∀ i, i < n → W.cell? ⟨sb, so + i, none⟩ = some (.int .i64 ((l.getD i 0 : Nat) : Int))) := fun W hb i hi => by
    rcases hs with ⟨_, _, _, h0⟩ | ⟨b, o, c, h1, _, h2⟩
    · omega
    · simp only [Value.slice.injEq, Option.some.injEq, Addr.mk.injEq, and_true] at h1
      obtain ⟨⟨rfl, rfl⟩, _⟩ := h1
      have := h2 i (by omega)
      rw [hb.cell (cell_lt this)]; exact this
  have HLN : Hid (∀ i, i < n → l.getD i 0 < N) := fun i hi => hlN _ (by rw [List.getD_eq_getElem?_getD, List.getElem?_eq_getElem (by omega)]; simp)
  obtain ⟨cb, co, cc, hcv, hcr⟩ := hc
  subst hcv
  have HC : Hid (∀ W, Below w.heap.size w W → ∀ i, i < N → ∃ b1 o1 cap1, W.cell? ⟨cb, co + i, none⟩ = some (.slice (some ⟨b1, o1, none⟩) N cap1) ∧ RowAt W b1 o1 N (zs i)) := fun W hb i hi => by
    obtain ⟨b1, o1, c1, h1, h2⟩ := hcr i hi
    exact ⟨b1, o1, c1, by rw [hb.cell (cell_lt h1)]; exact h1, fun k hk => by rw [hb.cell (cell_lt (h2 k hk))]; exact h2 k hk⟩
  have HZ := Hid.mk' hz
  clear hs hcr hz
  obtain ⟨W0, hW0⟩ : ∃ W0, W0 = w.alloc (.cells #[.slice none 0 0, .slice none 0 0, .slice none 0 0] 55) := ⟨_, rfl⟩
  have HB0 : Hid (Below w.heap.size w W0) := by rw [hW0]; exact (Below.refl _ _).alloc (Nat.le_refl _) _
  have HRC : Hid (RowIs W0 w.heap.size 3 (fun _ => .slice none 0 0)) := by rw [hW0]; exact box_new w _
  go_enter Tryd.func21, Tryd.ntmps21
  go_upto_region 1 with fail
  rw [← hW0]
  clear hW0
  go_cut [5] from 11 (fun p wx => ∃ g gt go fb : Nat, p = .pointer (some ⟨fb, 0, none⟩) ∧ Hid (Laid3 W0 wx n g gt go fb))
  case first =>
    have HBg := Hid.mk' (begun_start W0 W0.drew n (Below.refl _ _).drew)
    refine region_but_last (n := 11) (S := fun _ => True) (by kernel_rfl) (by kernel_rfl) (by kernel_rfl) trivial (fun hHeld => ?_)
    generalize W0.drew = Wd at *
    refine wpAnyH_take (i := 0) (v := ?v0z) rfl (by kernel_rfl) (by kernel_rfl) (by kernel_rfl) (fun _ _ _ h => h) (Or.inl ⟨by rfl, ?hy0z⟩) (by assumption) ?rest0z
    case hy0z => (intro w hSw; (try dsimp only at hSw); go_simp <;> (try with_reducible rfl))
    refine wpAnyH_take (i := 1) (v := ?v1z) rfl (by kernel_rfl) (by kernel_rfl) (by kernel_rfl) (fun _ _ _ h => h) (Or.inl ⟨by rfl, ?hy1z⟩) (by assumption) ?rest1z
    case hy1z => (intro w hSw; (try dsimp only at hSw); go_simp <;> (try with_reducible rfl))
    refine wpAnyH_take (i := 3) (v := ?v3z) rfl (by kernel_rfl) (by kernel_rfl) (by kernel_rfl) (fun _ _ _ h => h) (Or.inl ⟨by rfl, ?hy3z⟩) (by assumption) ?rest3z
    case hy3z => (intro w hSw; (try dsimp only at hSw); go_simp <;> (try with_reducible rfl))
    refine wpAnyH_take (i := 4) (v := ?v4z) rfl (by kernel_rfl) (by kernel_rfl) (by kernel_rfl) (fun _ _ _ h => h) (Or.inl ⟨by rfl, ?hy4z⟩) (by assumption) ?rest4z
    case hy4z => (intro w hSw; (try dsimp only at hSw); go_simp <;> (try with_reducible rfl))
    refine wpAnyH_take (i := 6) (v := ?v6z) rfl (by kernel_rfl) (by kernel_rfl) (by kernel_rfl) (fun _ _ _ h => h) (Or.inl ⟨by rfl, ?hy6z⟩) (by assumption) ?rest6z
    case hy6z => (intro w hSw; (try dsimp only at hSw); go_simp <;> (try with_reducible rfl))
    refine wpAnyH_take (i := 7) (v := ?v7z) rfl (by kernel_rfl) (by kernel_rfl) (by kernel_rfl) (fun _ _ _ h => h) (Or.inl ⟨by rfl, ?hy7z⟩) (by assumption) ?rest7z
    case hy7z => (intro w hSw; (try dsimp only at hSw); go_simp <;> (try with_reducible rfl))
    simp only [Act.put, List.getElem_toArray, List.getElem_cons_succ, List.getElem_cons_zero, List.setIfInBounds_toArray, List.set_cons_succ, List.set_cons_zero]
    refine wpAnyH_ready (rs := [2, 5, 8, 10]) (by kernel_rfl) (by simp) ?_
    refine AllReadyH.cons (i := 2) (rs := [5, 8, 10]) rfl (fun K hK => ?_) ?_
    · refine step_make _ rfl _ _ _ rfl 48 i1 _ Tryd.underlying53 HINR.out.1 HINR.out.2.1 HINR.out.2.2.1 n rfl rfl (by rw [HINR.out.2.2.2]; omega) (by unfold maxLen; omega) ?_
      intro wm4 hown hgrow
      refine hK.out _ _ trivial (fun hHeld => ?_)
      have HBg := Hid.mk' (HBg.out.row 0 (by decide) (made_below hgrow) (rowIs_made hown (made_one (.slice none 0 0) rfl n)) (heap_of_row hown))
      clear hK K hown hgrow
      simp only [Act.put, List.getElem_toArray, List.getElem_cons_succ, List.getElem_cons_zero, List.setIfInBounds_toArray, List.set_cons_succ, List.set_cons_zero]
      refine wpAnyH_ready (rs := [5, 8, 10]) (by kernel_rfl) (by simp) ?_
      refine AllReadyH.cons (i := 5) (rs := [8, 10]) rfl (fun K hK => ?_) ?_
      · refine step_make _ rfl _ _ _ rfl 50 i0 _ Tryd.underlying48 HINF.out.1 HINF.out.2.1 HINF.out.2.2.1 n rfl rfl (by rw [HINF.out.2.2.2]; omega) (by unfold maxLen; omega) ?_
        intro wm3 hown hgrow
        refine hK.out _ _ trivial (fun hHeld => ?_)
        have HBg := Hid.mk' (HBg.out.row 1 (by decide) (made_below hgrow) (rowIs_made hown (made_one (.slice none 0 0) rfl n)) (heap_of_row hown))
        clear hK K hown hgrow
        simp only [Act.put, List.getElem_toArray, List.getElem_cons_succ, List.getElem_cons_zero, List.setIfInBounds_toArray, List.set_cons_succ, List.set_cons_zero]
        refine wpAnyH_ready (rs := [8, 10]) (by kernel_rfl) (by simp) ?_
        refine AllReadyH.cons (i := 8) (rs := [10]) rfl (fun K hK => ?_) ?_
        · refine step_make _ rfl _ _ _ rfl 50 i0 _ Tryd.underlying48 HINF.out.1 HINF.out.2.1 HINF.out.2.2.1 n rfl rfl (by rw [HINF.out.2.2.2]; omega) (by unfold maxLen; omega) ?_
          intro wm2 hown hgrow
          refine hK.out _ _ trivial (fun hHeld => ?_)
          have HBg := Hid.mk' (HBg.out.row 2 (by decide) (made_below hgrow) (rowIs_made hown (made_one (.slice none 0 0) rfl n)) (heap_of_row hown))
          clear hK K hown hgrow
          simp only [Act.put, List.getElem_toArray, List.getElem_cons_succ, List.getElem_cons_zero, List.setIfInBounds_toArray, List.set_cons_succ, List.set_cons_zero]
          refine wpAnyH_take (i := 9) (v := ?v9q4) rfl (by kernel_rfl) (by kernel_rfl) (by kernel_rfl) (fun _ _ _ h => h) (Or.inl ⟨by rfl, ?hy9q4⟩) (by assumption) ?rest9q4
          case hy9q4 => (intro w hSw; (try dsimp only at hSw); go_simp <;> (try with_reducible rfl))
          simp only [Act.put, List.getElem_toArray, List.getElem_cons_succ, List.getElem_cons_zero, List.setIfInBounds_toArray, List.set_cons_succ, List.set_cons_zero]
          refine wpAnyH_ready (rs := [10]) (by kernel_rfl) (by simp) ?_
          refine AllReadyH.cons (i := 10) (rs := []) rfl (fun K hK => ?_) ?_
          · go_simp
            refine hK.out _ _ trivial (fun hHeld => ?_)
            have HBg := Hid.mk' (HBg.out.boxed ((Below.refl _ _).alloc (Nat.le_refl _) _) (box_new wm2 55) (by simp))
            clear hK K
            generalize wm2.alloc (.cells #[.slice none 0 0, .slice none 0 0, .slice none 0 0] 55) = Wb at HBg ⊢
            refine wpAnyH_done (by kernel_rfl) ?_ _
            have bb := HBg.out.box _ rfl
            have e0 := bb.row 0 (by decide)
            have e1 := bb.row 1 (by decide)
            have e2 := bb.row 2 (by decide)
            have f0 := bb.fz 0 (by decide)
            have f1 := bb.fz 1 (by decide)
            have f2 := bb.fz 2 (by decide)
            clear bb
            refine ahead_last rfl (fun K hK => ?_)
            go_simp
            refine hK _ _ ?_
            clear hK K
            go_wp2_with fail
            go_meet
            exact ⟨_, _, _, _, rfl, HBg.out.laid rfl rfl rfl rfl⟩
          exact AllReadyH.nil
        refine AllReadyH.cons (i := 10) (rs := []) rfl (fun K hK => ?_) ?_
        · go_simp
          refine hK.out _ _ trivial (fun hHeld => ?_)
          have HBg := Hid.mk' (HBg.out.boxed ((Below.refl _ _).alloc (Nat.le_refl _) _) (box_new wm3 55) (by simp))
          clear hK K
          generalize wm3.alloc (.cells #[.slice none 0 0, .slice none 0 0, .slice none 0 0] 55) = Wb at HBg ⊢
          refine wpAnyH_ready (rs := [8]) (by kernel_rfl) (by simp) ?_
          refine AllReadyH.cons (i := 8) (rs := []) rfl (fun K hK => ?_) ?_
          · refine step_make _ rfl _ _ _ rfl 50 i0 _ Tryd.underlying48 HINF.out.1 HINF.out.2.1 HINF.out.2.2.1 n rfl rfl (by rw [HINF.out.2.2.2]; omega) (by unfold maxLen; omega) ?_
            intro wm1 hown hgrow
            refine hK.out _ _ trivial (fun hHeld => ?_)
            have HBg := Hid.mk' (HBg.out.row 2 (by decide) (made_below hgrow) (rowIs_made hown (made_one (.slice none 0 0) rfl n)) (heap_of_row hown))
            clear hK K hown hgrow
            simp only [Act.put, List.getElem_toArray, List.getElem_cons_succ, List.getElem_cons_zero, List.setIfInBounds_toArray, List.set_cons_succ, List.set_cons_zero]
            refine wpAnyH_take (i := 9) (v := ?v9q7) rfl (by kernel_rfl) (by kernel_rfl) (by kernel_rfl) (fun _ _ _ h => h) (Or.inl ⟨by rfl, ?hy9q7⟩) (by assumption) ?rest9q7
            case hy9q7 => (intro w hSw; (try dsimp only at hSw); go_simp <;> (try with_reducible rfl))
            simp only [Act.put, List.getElem_toArray, List.getElem_cons_succ, List.getElem_cons_zero, List.setIfInBounds_toArray, List.set_cons_succ, List.set_cons_zero]
            refine wpAnyH_done (by kernel_rfl) ?_ _
            have bb := HBg.out.box _ rfl
            have e0 := bb.row 0 (by decide)
            have e1 := bb.row 1 (by decide)
            have e2 := bb.row 2 (by decide)
            have f0 := bb.fz 0 (by decide)
            have f1 := bb.fz 1 (by decide)
            have f2 := bb.fz 2 (by decide)
            clear bb
            refine ahead_last rfl (fun K hK => ?_)
            go_simp
            refine hK _ _ ?_
            clear hK K
            go_wp2_with fail
            go_meet
            exact ⟨_, _, _, _, rfl, HBg.out.laid rfl rfl rfl rfl⟩
          exact AllReadyH.nil
        exact AllReadyH.nil
      refine AllReadyH.cons (i := 8) (rs := [10]) rfl (fun K hK => ?_) ?_
      · refine step_make _ rfl _ _ _ rfl 50 i0 _ Tryd.underlying48 HINF.out.1 HINF.out.2.1 HINF.out.2.2.1 n rfl rfl (by rw [HINF.out.2.2.2]; omega) (by unfold maxLen; omega) ?_
        intro wm3 hown hgrow
        refine hK.out _ _ trivial (fun hHeld => ?_)
        have HBg := Hid.mk' (HBg.out.row 2 (by decide) (made_below hgrow) (rowIs_made hown (made_one (.slice none 0 0) rfl n)) (heap_of_row hown))
        clear hK K hown hgrow
        simp only [Act.put, List.getElem_toArray, List.getElem_cons_succ, List.getElem_cons_zero, List.setIfInBounds_toArray, List.set_cons_succ, List.set_cons_zero]
        refine wpAnyH_ready (rs := [5, 10]) (by kernel_rfl) (by simp) ?_
        refine AllReadyH.cons (i := 5) (rs := [10]) rfl (fun K hK => ?_) ?_
        · refine step_make _ rfl _ _ _ rfl 50 i0 _ Tryd.underlying48 HINF.out.1 HINF.out.2.1 HINF.out.2.2.1 n rfl rfl (by rw [HINF.out.2.2.2]; omega) (by unfold maxLen; omega) ?_
          intro wm2 hown hgrow
          refine hK.out _ _ trivial (fun hHeld => ?_)
          have HBg := Hid.mk' (HBg.out.row 1 (by decide) (made_below hgrow) (rowIs_made hown (made_one (.slice none 0 0) rfl n)) (heap_of_row hown))
          clear hK K hown hgrow
          simp only [Act.put, List.getElem_toArray, List.getElem_cons_succ, List.getElem_cons_zero, List.setIfInBounds_toArray, List.set_cons_succ, List.set_cons_zero]
          refine wpAnyH_take (i := 9) (v := ?v9q9) rfl (by kernel_rfl) (by kernel_rfl) (by kernel_rfl) (fun _ _ _ h => h) (Or.inl ⟨by rfl, ?hy9q9⟩) (by assumption) ?rest9q9
          case hy9q9 => (intro w hSw; (try dsimp only at hSw); go_simp <;> (try with_reducible rfl))
          simp only [Act.put, List.getElem_toArray, List.getElem_cons_succ, List.getElem_cons_zero, List.setIfInBounds_toArray, List.set_cons_succ, List.set_cons_zero]
          refine wpAnyH_ready (rs := [10]) (by kernel_rfl) (by simp) ?_
          refine AllReadyH.cons (i := 10) (rs := []) rfl (fun K hK => ?_) ?_
          · go_simp
            refine hK.out _ _ trivial (fun hHeld => ?_)
            have HBg := Hid.mk' (HBg.out.boxed ((Below.refl _ _).alloc (Nat.le_refl _) _) (box_new wm2 55) (by simp))
            clear hK K
            generalize wm2.alloc (.cells #[.slice none 0 0, .slice none 0 0, .slice none 0 0] 55) = Wb at HBg ⊢
            refine wpAnyH_done (by kernel_rfl) ?_ _
            have bb := HBg.out.box _ rfl
            have e0 := bb.row 0 (by decide)
            have e1 := bb.row 1 (by decide)
            have e2 := bb.row 2 (by decide)
            have f0 := bb.fz 0 (by decide)
            have f1 := bb.fz 1 (by decide)
            have f2 := bb.fz 2 (by decide)
            clear bb
            refine ahead_last rfl (fun K hK => ?_)
            go_simp
            refine hK _ _ ?_
            clear hK K
            go_wp2_with fail
            go_meet
            exact ⟨_, _, _, _, rfl, HBg.out.laid rfl rfl rfl rfl⟩
          exact AllReadyH.nil
        refine AllReadyH.cons (i := 10) (rs := []) rfl (fun K hK => ?_) ?_
        · go_simp
          refine hK.out _ _ trivial (fun hHeld => ?_)
          have HBg := Hid.mk' (HBg.out.boxed ((Below.refl _ _).alloc (Nat.le_refl _) _) (box_new wm3 55) (by simp))
          clear hK K
          generalize wm3.alloc (.cells #[.slice none 0 0, .slice none 0 0, .slice none 0 0] 55) = Wb at HBg ⊢
          refine wpAnyH_ready (rs := [5]) (by kernel_rfl) (by simp) ?_
          refine AllReadyH.cons (i := 5) (rs := []) rfl (fun K hK => ?_) ?_
          · refine step_make _ rfl _ _ _ rfl 50 i0 _ Tryd.underlying48 HINF.out.1 HINF.out.2.1 HINF.out.2.2.1 n rfl rfl (by rw [HINF.out.2.2.2]; omega) (by unfold maxLen; omega) ?_
            intro wm1 hown hgrow
            refine hK.out _ _ trivial (fun hHeld => ?_)
            have HBg := Hid.mk' (HBg.out.row 1 (by decide) (made_below hgrow) (rowIs_made hown (made_one (.slice none 0 0) rfl n)) (heap_of_row hown))
            clear hK K hown hgrow
            simp only [Act.put, List.getElem_toArray, List.getElem_cons_succ, List.getElem_cons_zero, List.setIfInBounds_toArray, List.set_cons_succ, List.set_cons_zero]
            refine wpAnyH_take (i := 9) (v := ?v9q12) rfl (by kernel_rfl) (by kernel_rfl) (by kernel_rfl) (fun _ _ _ h => h) (Or.inl ⟨by rfl, ?hy9q12⟩) (by assumption) ?rest9q12
            case hy9q12 => (intro w hSw; (try dsimp only at hSw); go_simp <;> (try with_reducible rfl))
            simp only [Act.put, List.getElem_toArray, List.getElem_cons_succ, List.getElem_cons_zero, List.setIfInBounds_toArray, List.set_cons_succ, List.set_cons_zero]
            refine wpAnyH_done (by kernel_rfl) ?_ _
            have bb := HBg.out.box _ rfl
            have e0 := bb.row 0 (by decide)
            have e1 := bb.row 1 (by decide)
            have e2 := bb.row 2 (by decide)
            have f0 := bb.fz 0 (by decide)
            have f1 := bb.fz 1 (by decide)
            have f2 := bb.fz 2 (by decide)
            clear bb
            refine ahead_last rfl (fun K hK => ?_)
            go_simp
            refine hK _ _ ?_
            clear hK K
            go_wp2_with fail
            go_meet
            exact ⟨_, _, _, _, rfl, HBg.out.laid rfl rfl rfl rfl⟩
          exact AllReadyH.nil
        exact AllReadyH.nil
      refine AllReadyH.cons (i := 10) (rs := []) rfl (fun K hK => ?_) ?_
      · go_simp
        refine hK.out _ _ trivial (fun hHeld => ?_)
        have HBg := Hid.mk' (HBg.out.boxed ((Below.refl _ _).alloc (Nat.le_refl _) _) (box_new wm4 55) (by simp))
        clear hK K
        generalize wm4.alloc (.cells #[.slice none 0 0, .slice none 0 0, .slice none 0 0] 55) = Wb at HBg ⊢
        refine wpAnyH_ready (rs := [5, 8]) (by kernel_rfl) (by simp) ?_
        refine AllReadyH.cons (i := 5) (rs := [8]) rfl (fun K hK => ?_) ?_
        · refine step_make _ rfl _ _ _ rfl 50 i0 _ Tryd.underlying48 HINF.out.1 HINF.out.2.1 HINF.out.2.2.1 n rfl rfl (by rw [HINF.out.2.2.2]; omega) (by unfold maxLen; omega) ?_
          intro wm2 hown hgrow
          refine hK.out _ _ trivial (fun hHeld => ?_)
          have HBg := Hid.mk' (HBg.out.row 1 (by decide) (made_below hgrow) (rowIs_made hown (made_one (.slice none 0 0) rfl n)) (heap_of_row hown))
          clear hK K hown hgrow
          simp only [Act.put, List.getElem_toArray, List.getElem_cons_succ, List.getElem_cons_zero, List.setIfInBounds_toArray, List.set_cons_succ, List.set_cons_zero]
          refine wpAnyH_ready (rs := [8]) (by kernel_rfl) (by simp) ?_
          refine AllReadyH.cons (i := 8) (rs := []) rfl (fun K hK => ?_) ?_
          · refine step_make _ rfl _ _ _ rfl 50 i0 _ Tryd.underlying48 HINF.out.1 HINF.out.2.1 HINF.out.2.2.1 n rfl rfl (by rw [HINF.out.2.2.2]; omega) (by unfold maxLen; omega) ?_
            intro wm1 hown hgrow
            refine hK.out _ _ trivial (fun hHeld => ?_)
            have HBg := Hid.mk' (HBg.out.row 2 (by decide) (made_below hgrow) (rowIs_made hown (made_one (.slice none 0 0) rfl n)) (heap_of_row hown))
            clear hK K hown hgrow
            simp only [Act.put, List.getElem_toArray, List.getElem_cons_succ, List.getElem_cons_zero, List.setIfInBounds_toArray, List.set_cons_succ, List.set_cons_zero]
            refine wpAnyH_take (i := 9) (v := ?v9q15) rfl (by kernel_rfl) (by kernel_rfl) (by kernel_rfl) (fun _ _ _ h => h) (Or.inl ⟨by rfl, ?hy9q15⟩) (by assumption) ?rest9q15
            case hy9q15 => (intro w hSw; (try dsimp only at hSw); go_simp <;> (try with_reducible rfl))
            simp only [Act.put, List.getElem_toArray, List.getElem_cons_succ, List.getElem_cons_zero, List.setIfInBounds_toArray, List.set_cons_succ, List.set_cons_zero]
            refine wpAnyH_done (by kernel_rfl) ?_ _
            have bb := HBg.out.box _ rfl
            have e0 := bb.row 0 (by decide)
            have e1 := bb.row 1 (by decide)
            have e2 := bb.row 2 (by decide)
            have f0 := bb.fz 0 (by decide)
            have f1 := bb.fz 1 (by decide)
            have f2 := bb.fz 2 (by decide)
            clear bb
            refine ahead_last rfl (fun K hK => ?_)
            go_simp
            refine hK _ _ ?_
            clear hK K
            go_wp2_with fail
            go_meet
            exact ⟨_, _, _, _, rfl, HBg.out.laid rfl rfl rfl rfl⟩
          exact AllReadyH.nil
        refine AllReadyH.cons (i := 8) (rs := []) rfl (fun K hK => ?_) ?_
        · refine step_make _ rfl _ _ _ rfl 50 i0 _ Tryd.underlying48 HINF.out.1 HINF.out.2.1 HINF.out.2.2.1 n rfl rfl (by rw [HINF.out.2.2.2]; omega) (by unfold maxLen; omega) ?_
          intro wm2 hown hgrow
          refine hK.out _ _ trivial (fun hHeld => ?_)
          have HBg := Hid.mk' (HBg.out.row 2 (by decide) (made_below hgrow) (rowIs_made hown (made_one (.slice none 0 0) rfl n)) (heap_of_row hown))
          clear hK K hown hgrow
          simp only [Act.put, List.getElem_toArray, List.getElem_cons_succ, List.getElem_cons_zero, List.setIfInBounds_toArray, List.set_cons_succ, List.set_cons_zero]
          refine wpAnyH_ready (rs := [5]) (by kernel_rfl) (by simp) ?_
          refine AllReadyH.cons (i := 5) (rs := []) rfl (fun K hK => ?_) ?_
          · refine step_make _ rfl _ _ _ rfl 50 i0 _ Tryd.underlying48 HINF.out.1 HINF.out.2.1 HINF.out.2.2.1 n rfl rfl (by rw [HINF.out.2.2.2]; omega) (by unfold maxLen; omega) ?_
            intro wm1 hown hgrow
            refine hK.out _ _ trivial (fun hHeld => ?_)
            have HBg := Hid.mk' (HBg.out.row 1 (by decide) (made_below hgrow) (rowIs_made hown (made_one (.slice none 0 0) rfl n)) (heap_of_row hown))
            clear hK K hown hgrow
            simp only [Act.put, List.getElem_toArray, List.getElem_cons_succ, List.getElem_cons_zero, List.setIfInBounds_toArray, List.set_cons_succ, List.set_cons_zero]
            refine wpAnyH_take (i := 9) (v := ?v9q17) rfl (by kernel_rfl) (by kernel_rfl) (by kernel_rfl) (fun _ _ _ h => h) (Or.inl ⟨by rfl, ?hy9q17⟩) (by assumption) ?rest9q17
            case hy9q17 => (intro w hSw; (try dsimp only at hSw); go_simp <;> (try with_reducible rfl))
            simp only [Act.put, List.getElem_toArray, List.getElem_cons_succ, List.getElem_cons_zero, List.setIfInBounds_toArray, List.set_cons_succ, List.set_cons_zero]
            refine wpAnyH_done (by kernel_rfl) ?_ _
            have bb := HBg.out.box _ rfl
            have e0 := bb.row 0 (by decide)
            have e1 := bb.row 1 (by decide)
            have e2 := bb.row 2 (by decide)
            have f0 := bb.fz 0 (by decide)
            have f1 := bb.fz 1 (by decide)
            have f2 := bb.fz 2 (by decide)
            clear bb
            refine ahead_last rfl (fun K hK => ?_)
            go_simp
            refine hK _ _ ?_
            clear hK K
            go_wp2_with fail
            go_meet
            exact ⟨_, _, _, _, rfl, HBg.out.laid rfl rfl rfl rfl⟩
          exact AllReadyH.nil
        exact AllReadyH.nil
      exact AllReadyH.nil
    refine AllReadyH.cons (i := 5) (rs := [8, 10]) rfl (fun K hK => ?_) ?_
    · refine step_make _ rfl _ _ _ rfl 50 i0 _ Tryd.underlying48 HINF.out.1 HINF.out.2.1 HINF.out.2.2.1 n rfl rfl (by rw [HINF.out.2.2.2]; omega) (by unfold maxLen; omega) ?_
      intro wm4 hown hgrow
      refine hK.out _ _ trivial (fun hHeld => ?_)
      have HBg := Hid.mk' (HBg.out.row 1 (by decide) (made_below hgrow) (rowIs_made hown (made_one (.slice none 0 0) rfl n)) (heap_of_row hown))
      clear hK K hown hgrow
      simp only [Act.put, List.getElem_toArray, List.getElem_cons_succ, List.getElem_cons_zero, List.setIfInBounds_toArray, List.set_cons_succ, List.set_cons_zero]
      refine wpAnyH_ready (rs := [2, 8, 10]) (by kernel_rfl) (by simp) ?_
      refine AllReadyH.cons (i := 2) (rs := [8, 10]) rfl (fun K hK => ?_) ?_
      · refine step_make _ rfl _ _ _ rfl 48 i1 _ Tryd.underlying53 HINR.out.1 HINR.out.2.1 HINR.out.2.2.1 n rfl rfl (by rw [HINR.out.2.2.2]; omega) (by unfold maxLen; omega) ?_
        intro wm3 hown hgrow
        refine hK.out _ _ trivial (fun hHeld => ?_)
        have HBg := Hid.mk' (HBg.out.row 0 (by decide) (made_below hgrow) (rowIs_made hown (made_one (.slice none 0 0) rfl n)) (heap_of_row hown))
        clear hK K hown hgrow
        simp only [Act.put, List.getElem_toArray, List.getElem_cons_succ, List.getElem_cons_zero, List.setIfInBounds_toArray, List.set_cons_succ, List.set_cons_zero]
        refine wpAnyH_ready (rs := [8, 10]) (by kernel_rfl) (by simp) ?_
        refine AllReadyH.cons (i := 8) (rs := [10]) rfl (fun K hK => ?_) ?_
        · refine step_make _ rfl _ _ _ rfl 50 i0 _ Tryd.underlying48 HINF.out.1 HINF.out.2.1 HINF.out.2.2.1 n rfl rfl (by rw [HINF.out.2.2.2]; omega) (by unfold maxLen; omega) ?_
          intro wm2 hown hgrow
          refine hK.out _ _ trivial (fun hHeld => ?_)
          have HBg := Hid.mk' (HBg.out.row 2 (by decide) (made_below hgrow) (rowIs_made hown (made_one (.slice none 0 0) rfl n)) (heap_of_row hown))
          clear hK K hown hgrow
          simp only [Act.put, List.getElem_toArray, List.getElem_cons_succ, List.getElem_cons_zero, List.setIfInBounds_toArray, List.set_cons_succ, List.set_cons_zero]
          refine wpAnyH_take (i := 9) (v := ?v9q20) rfl (by kernel_rfl) (by kernel_rfl) (by kernel_rfl) (fun _ _ _ h => h) (Or.inl ⟨by rfl, ?hy9q20⟩) (by assumption) ?rest9q20
          case hy9q20 => (intro w hSw; (try dsimp only at hSw); go_simp <;> (try with_reducible rfl))
          simp only [Act.put, List.getElem_toArray, List.getElem_cons_succ, List.getElem_cons_zero, List.setIfInBounds_toArray, List.set_cons_succ, List.set_cons_zero]
          refine wpAnyH_ready (rs := [10]) (by kernel_rfl) (by simp) ?_
          refine AllReadyH.cons (i := 10) (rs := []) rfl (fun K hK => ?_) ?_
          · go_simp
            refine hK.out _ _ trivial (fun hHeld => ?_)
            have HBg := Hid.mk' (HBg.out.boxed ((Below.refl _ _).alloc (Nat.le_refl _) _) (box_new wm2 55) (by simp))
            clear hK K
            generalize wm2.alloc (.cells #[.slice none 0 0, .slice none 0 0, .slice none 0 0] 55) = Wb at HBg ⊢
            refine wpAnyH_done (by kernel_rfl) ?_ _
            have bb := HBg.out.box _ rfl
            have e0 := bb.row 0 (by decide)
            have e1 := bb.row 1 (by decide)
            have e2 := bb.row 2 (by decide)
            have f0 := bb.fz 0 (by decide)
            have f1 := bb.fz 1 (by decide)
            have f2 := bb.fz 2 (by decide)
            clear bb
            refine ahead_last rfl (fun K hK => ?_)
            go_simp
            refine hK _ _ ?_
            clear hK K
            go_wp2_with fail
            go_meet
            exact ⟨_, _, _, _, rfl, HBg.out.laid rfl rfl rfl rfl⟩
          exact AllReadyH.nil
        refine AllReadyH.cons (i := 10) (rs := []) rfl (fun K hK => ?_) ?_
        · go_simp
          refine hK.out _ _ trivial (fun hHeld => ?_)
          have HBg := Hid.mk' (HBg.out.boxed ((Below.refl _ _).alloc (Nat.le_refl _) _) (box_new wm3 55) (by simp))
          clear hK K
          generalize wm3.alloc (.cells #[.slice none 0 0, .slice none 0 0, .slice none 0 0] 55) = Wb at HBg ⊢
          refine wpAnyH_ready (rs := [8]) (by kernel_rfl) (by simp) ?_
          refine AllReadyH.cons (i := 8) (rs := []) rfl (fun K hK => ?_) ?_
          · refine step_make _ rfl _ _ _ rfl 50 i0 _ Tryd.underlying48 HINF.out.1 HINF.out.2.1 HINF.out.2.2.1 n rfl rfl (by rw [HINF.out.2.2.2]; omega) (by unfold maxLen; omega) ?_
            intro wm1 hown hgrow
            refine hK.out _ _ trivial (fun hHeld => ?_)
            have HBg := Hid.mk' (HBg.out.row 2 (by decide) (made_below hgrow) (rowIs_made hown (made_one (.slice none 0 0) rfl n)) (heap_of_row hown))
            clear hK K hown hgrow
            simp only [Act.put, List.getElem_toArray, List.getElem_cons_succ, List.getElem_cons_zero, List.setIfInBounds_toArray, List.set_cons_succ, List.set_cons_zero]
            refine wpAnyH_take (i := 9) (v := ?v9q23) rfl (by kernel_rfl) (by kernel_rfl) (by kernel_rfl) (fun _ _ _ h => h) (Or.inl ⟨by rfl, ?hy9q23⟩) (by assumption) ?rest9q23
            case hy9q23 => (intro w hSw; (try dsimp only at hSw); go_simp <;> (try with_reducible rfl))
            simp only [Act.put, List.getElem_toArray, List.getElem_cons_succ, List.getElem_cons_zero, List.setIfInBounds_toArray, List.set_cons_succ, List.set_cons_zero]
            refine wpAnyH_done (by kernel_rfl) ?_ _
            have bb := HBg.out.box _ rfl
            have e0 := bb.row 0 (by decide)
            have e1 := bb.row 1 (by decide)
            have e2 := bb.row 2 (by decide)
            have f0 := bb.fz 0 (by decide)
            have f1 := bb.fz 1 (by decide)
            have f2 := bb.fz 2 (by decide)
            clear bb
            refine ahead_last rfl (fun K hK => ?_)
            go_simp
            refine hK _ _ ?_
            clear hK K
            go_wp2_with fail
            go_meet
            exact ⟨_, _, _, _, rfl, HBg.out.laid rfl rfl rfl rfl⟩
          exact AllReadyH.nil
        exact AllReadyH.nil
      refine AllReadyH.cons (i := 8) (rs := [10]) rfl (fun K hK => ?_) ?_
      · refine step_make _ rfl _ _ _ rfl 50 i0 _ Tryd.underlying48 HINF.out.1 HINF.out.2.1 HINF.out.2.2.1 n rfl rfl (by rw [HINF.out.2.2.2]; omega) (by unfold maxLen; omega) ?_
        intro wm3 hown hgrow
        refine hK.out _ _ trivial (fun hHeld => ?_)
        have HBg := Hid.mk' (HBg.out.row 2 (by decide) (made_below hgrow) (rowIs_made hown (made_one (.slice none 0 0) rfl n)) (heap_of_row hown))
        clear hK K hown hgrow
        simp only [Act.put, List.getElem_toArray, List.getElem_cons_succ, List.getElem_cons_zero, List.setIfInBounds_toArray, List.set_cons_succ, List.set_cons_zero]
        refine wpAnyH_ready (rs := [2, 10]) (by kernel_rfl) (by simp) ?_
        refine AllReadyH.cons (i := 2) (rs := [10]) rfl (fun K hK => ?_) ?_
        · refine step_make _ rfl _ _ _ rfl 48 i1 _ Tryd.underlying53 HINR.out.1 HINR.out.2.1 HINR.out.2.2.1 n rfl rfl (by rw [HINR.out.2.2.2]; omega) (by unfold maxLen; omega) ?_
          intro wm2 hown hgrow
          refine hK.out _ _ trivial (fun hHeld => ?_)
          have HBg := Hid.mk' (HBg.out.row 0 (by decide) (made_below hgrow) (rowIs_made hown (made_one (.slice none 0 0) rfl n)) (heap_of_row hown))
          clear hK K hown hgrow
          simp only [Act.put, List.getElem_toArray, List.getElem_cons_succ, List.getElem_cons_zero, List.setIfInBounds_toArray, List.set_cons_succ, List.set_cons_zero]
          refine wpAnyH_take (i := 9) (v := ?v9q25) rfl (by kernel_rfl) (by kernel_rfl) (by kernel_rfl) (fun _ _ _ h => h) (Or.inl ⟨by rfl, ?hy9q25⟩) (by assumption) ?rest9q25
          case hy9q25 => (intro w hSw; (try dsimp only at hSw); go_simp <;> (try with_reducible rfl))
          simp only [Act.put, List.getElem_toArray, List.getElem_cons_succ, List.getElem_cons_zero, List.setIfInBounds_toArray, List.set_cons_succ, List.set_cons_zero]
          refine wpAnyH_ready (rs := [10]) (by kernel_rfl) (by simp) ?_
          refine AllReadyH.cons (i := 10) (rs := []) rfl (fun K hK => ?_) ?_
          · go_simp
            refine hK.out _ _ trivial (fun hHeld => ?_)
            have HBg := Hid.mk' (HBg.out.boxed ((Below.refl _ _).alloc (Nat.le_refl _) _) (box_new wm2 55) (by simp))
            clear hK K
            generalize wm2.alloc (.cells #[.slice none 0 0, .slice none 0 0, .slice none 0 0] 55) = Wb at HBg ⊢
            refine wpAnyH_done (by kernel_rfl) ?_ _
            have bb := HBg.out.box _ rfl
            have e0 := bb.row 0 (by decide)
            have e1 := bb.row 1 (by decide)
            have e2 := bb.row 2 (by decide)
            have f0 := bb.fz 0 (by decide)
            have f1 := bb.fz 1 (by decide)
            have f2 := bb.fz 2 (by decide)
            clear bb
            refine ahead_last rfl (fun K hK => ?_)
            go_simp
            refine hK _ _ ?_
            clear hK K
            go_wp2_with fail
            go_meet
            exact ⟨_, _, _, _, rfl, HBg.out.laid rfl rfl rfl rfl⟩
          exact AllReadyH.nil
        refine AllReadyH.cons (i := 10) (rs := []) rfl (fun K hK => ?_) ?_
        · go_simp
          refine hK.out _ _ trivial (fun hHeld => ?_)
          have HBg := Hid.mk' (HBg.out.boxed ((Below.refl _ _).alloc (Nat.le_refl _) _) (box_new wm3 55) (by simp))
          clear hK K
          generalize wm3.alloc (.cells #[.slice none 0 0, .slice none 0 0, .slice none 0 0] 55) = Wb at HBg ⊢
          refine wpAnyH_ready (rs := [2]) (by kernel_rfl) (by simp) ?_
          refine AllReadyH.cons (i := 2) (rs := []) rfl (fun K hK => ?_) ?_
          · refine step_make _ rfl _ _ _ rfl 48 i1 _ Tryd.underlying53 HINR.out.1 HINR.out.2.1 HINR.out.2.2.1 n rfl rfl (by rw [HINR.out.2.2.2]; omega) (by unfold maxLen; omega) ?_
            intro wm1 hown hgrow
            refine hK.out _ _ trivial (fun hHeld => ?_)
            have HBg := Hid.mk' (HBg.out.row 0 (by decide) (made_below hgrow) (rowIs_made hown (made_one (.slice none 0 0) rfl n)) (heap_of_row hown))
            clear hK K hown hgrow
            simp only [Act.put, List.getElem_toArray, List.getElem_cons_succ, List.getElem_cons_zero, List.setIfInBounds_toArray, List.set_cons_succ, List.set_cons_zero]
            refine wpAnyH_take (i := 9) (v := ?v9q28) rfl (by kernel_rfl) (by kernel_rfl) (by kernel_rfl) (fun _ _ _ h => h) (Or.inl ⟨by rfl, ?hy9q28⟩) (by assumption) ?rest9q28
            case hy9q28 => (intro w hSw; (try dsimp only at hSw); go_simp <;> (try with_reducible rfl))
            simp only [Act.put, List.getElem_toArray, List.getElem_cons_succ, List.getElem_cons_zero, List.setIfInBounds_toArray, List.set_cons_succ, List.set_cons_zero]
            refine wpAnyH_done (by kernel_rfl) ?_ _
            have bb := HBg.out.box _ rfl
            have e0 := bb.row 0 (by decide)
            have e1 := bb.row 1 (by decide)
            have e2 := bb.row 2 (by decide)
            have f0 := bb.fz 0 (by decide)
            have f1 := bb.fz 1 (by decide)
            have f2 := bb.fz 2 (by decide)
            clear bb
            refine ahead_last rfl (fun K hK => ?_)
            go_simp
            refine hK _ _ ?_
            clear hK K
            go_wp2_with fail
            go_meet
            exact ⟨_, _, _, _, rfl, HBg.out.laid rfl rfl rfl rfl⟩
          exact AllReadyH.nil
        exact AllReadyH.nil
      refine AllReadyH.cons (i := 10) (rs := []) rfl (fun K hK => ?_) ?_
      · go_simp
        refine hK.out _ _ trivial (fun hHeld => ?_)
        have HBg := Hid.mk' (HBg.out.boxed ((Below.refl _ _).alloc (Nat.le_refl _) _) (box_new wm4 55) (by simp))
        clear hK K
        generalize wm4.alloc (.cells #[.slice none 0 0, .slice none 0 0, .slice none 0 0] 55) = Wb at HBg ⊢
        refine wpAnyH_ready (rs := [2, 8]) (by kernel_rfl) (by simp) ?_
        refine AllReadyH.cons (i := 2) (rs := [8]) rfl (fun K hK => ?_) ?_
        · refine step_make _ rfl _ _ _ rfl 48 i1 _ Tryd.underlying53 HINR.out.1 HINR.out.2.1 HINR.out.2.2.1 n rfl rfl (by rw [HINR.out.2.2.2]; omega) (by unfold maxLen; omega) ?_
          intro wm2 hown hgrow
          refine hK.out _ _ trivial (fun hHeld => ?_)
          have HBg := Hid.mk' (HBg.out.row 0 (by decide) (made_below hgrow) (rowIs_made hown (made_one (.slice none 0 0) rfl n)) (heap_of_row hown))
          clear hK K hown hgrow
          simp only [Act.put, List.getElem_toArray, List.getElem_cons_succ, List.getElem_cons_zero, List.setIfInBounds_toArray, List.set_cons_succ, List.set_cons_zero]
          refine wpAnyH_ready (rs := [8]) (by kernel_rfl) (by simp) ?_
          refine AllReadyH.cons (i := 8) (rs := []) rfl (fun K hK => ?_) ?_
          · refine step_make _ rfl _ _ _ rfl 50 i0 _ Tryd.underlying48 HINF.out.1 HINF.out.2.1 HINF.out.2.2.1 n rfl rfl (by rw [HINF.out.2.2.2]; omega) (by unfold maxLen; omega) ?_
            intro wm1 hown hgrow
            refine hK.out _ _ trivial (fun hHeld => ?_)
            have HBg := Hid.mk' (HBg.out.row 2 (by decide) (made_below hgrow) (rowIs_made hown (made_one (.slice none 0 0) rfl n)) (heap_of_row hown))
            clear hK K hown hgrow
            simp only [Act.put, List.getElem_toArray, List.getElem_cons_succ, List.getElem_cons_zero, List.setIfInBounds_toArray, List.set_cons_succ, List.set_cons_zero]
            refine wpAnyH_take (i := 9) (v := ?v9q31) rfl (by kernel_rfl) (by kernel_rfl) (by kernel_rfl) (fun _ _ _ h => h) (Or.inl ⟨by rfl, ?hy9q31⟩) (by assumption) ?rest9q31
            case hy9q31 => (intro w hSw; (try dsimp only at hSw); go_simp <;> (try with_reducible rfl))
            simp only [Act.put, List.getElem_toArray, List.getElem_cons_succ, List.getElem_cons_zero, List.setIfInBounds_toArray, List.set_cons_succ, List.set_cons_zero]
            refine wpAnyH_done (by kernel_rfl) ?_ _
            have bb := HBg.out.box _ rfl
            have e0 := bb.row 0 (by decide)
            have e1 := bb.row 1 (by decide)
            have e2 := bb.row 2 (by decide)
            have f0 := bb.fz 0 (by decide)
            have f1 := bb.fz 1 (by decide)
            have f2 := bb.fz 2 (by decide)
            clear bb
            refine ahead_last rfl (fun K hK => ?_)
            go_simp
            refine hK _ _ ?_
            clear hK K
            go_wp2_with fail
            go_meet
            exact ⟨_, _, _, _, rfl, HBg.out.laid rfl rfl rfl rfl⟩
          exact AllReadyH.nil
        refine AllReadyH.cons (i := 8) (rs := []) rfl (fun K hK => ?_) ?_
        · refine step_make _ rfl _ _ _ rfl 50 i0 _ Tryd.underlying48 HINF.out.1 HINF.out.2.1 HINF.out.2.2.1 n rfl rfl (by rw [HINF.out.2.2.2]; omega) (by unfold maxLen; omega) ?_
          intro wm2 hown hgrow
          refine hK.out _ _ trivial (fun hHeld => ?_)
          have HBg := Hid.mk' (HBg.out.row 2 (by decide) (made_below hgrow) (rowIs_made hown (made_one (.slice none 0 0) rfl n)) (heap_of_row hown))
          clear hK K hown hgrow
          simp only [Act.put, List.getElem_toArray, List.getElem_cons_succ, List.getElem_cons_zero, List.setIfInBounds_toArray, List.set_cons_succ, List.set_cons_zero]
          refine wpAnyH_ready (rs := [2]) (by kernel_rfl) (by simp) ?_
          refine AllReadyH.cons (i := 2) (rs := []) rfl (fun K hK => ?_) ?_
          · refine step_make _ rfl _ _ _ rfl 48 i1 _ Tryd.underlying53 HINR.out.1 HINR.out.2.1 HINR.out.2.2.1 n rfl rfl (by rw [HINR.out.2.2.2]; omega) (by unfold maxLen; omega) ?_
            intro wm1 hown hgrow
            refine hK.out _ _ trivial (fun hHeld => ?_)
            have HBg := Hid.mk' (HBg.out.row 0 (by decide) (made_below hgrow) (rowIs_made hown (made_one (.slice none 0 0) rfl n)) (heap_of_row hown))
            clear hK K hown hgrow
            simp only [Act.put, List.getElem_toArray, List.getElem_cons_succ, List.getElem_cons_zero, List.setIfInBounds_toArray, List.set_cons_succ, List.set_cons_zero]
            refine wpAnyH_take (i := 9) (v := ?v9q33) rfl (by kernel_rfl) (by kernel_rfl) (by kernel_rfl) (fun _ _ _ h => h) (Or.inl ⟨by rfl, ?hy9q33⟩) (by assumption) ?rest9q33
            case hy9q33 => (intro w hSw; (try dsimp only at hSw); go_simp <;> (try with_reducible rfl))
            simp only [Act.put, List.getElem_toArray, List.getElem_cons_succ, List.getElem_cons_zero, List.setIfInBounds_toArray, List.set_cons_succ, List.set_cons_zero]
            refine wpAnyH_done (by kernel_rfl) ?_ _
            have bb := HBg.out.box _ rfl
            have e0 := bb.row 0 (by decide)
            have e1 := bb.row 1 (by decide)
            have e2 := bb.row 2 (by decide)
            have f0 := bb.fz 0 (by decide)
            have f1 := bb.fz 1 (by decide)
            have f2 := bb.fz 2 (by decide)
            clear bb
            refine ahead_last rfl (fun K hK => ?_)
            go_simp
            refine hK _ _ ?_
            clear hK K
            go_wp2_with fail
            go_meet
            exact ⟨_, _, _, _, rfl, HBg.out.laid rfl rfl rfl rfl⟩
          exact AllReadyH.nil
        exact AllReadyH.nil
      exact AllReadyH.nil
    refine AllReadyH.cons (i := 8) (rs := [10]) rfl (fun K hK => ?_) ?_
    · refine step_make _ rfl _ _ _ rfl 50 i0 _ Tryd.underlying48 HINF.out.1 HINF.out.2.1 HINF.out.2.2.1 n rfl rfl (by rw [HINF.out.2.2.2]; omega) (by unfold maxLen; omega) ?_
      intro wm4 hown hgrow
      refine hK.out _ _ trivial (fun hHeld => ?_)
      have HBg := Hid.mk' (HBg.out.row 2 (by decide) (made_below hgrow) (rowIs_made hown (made_one (.slice none 0 0) rfl n)) (heap_of_row hown))
      clear hK K hown hgrow
      simp only [Act.put, List.getElem_toArray, List.getElem_cons_succ, List.getElem_cons_zero, List.setIfInBounds_toArray, List.set_cons_succ, List.set_cons_zero]
      refine wpAnyH_ready (rs := [2, 5, 10]) (by kernel_rfl) (by simp) ?_
      refine AllReadyH.cons (i := 2) (rs := [5, 10]) rfl (fun K hK => ?_) ?_
      · refine step_make _ rfl _ _ _ rfl 48 i1 _ Tryd.underlying53 HINR.out.1 HINR.out.2.1 HINR.out.2.2.1 n rfl rfl (by rw [HINR.out.2.2.2]; omega) (by unfold maxLen; omega) ?_
        intro wm3 hown hgrow
        refine hK.out _ _ trivial (fun hHeld => ?_)
        have HBg := Hid.mk' (HBg.out.row 0 (by decide) (made_below hgrow) (rowIs_made hown (made_one (.slice none 0 0) rfl n)) (heap_of_row hown))
        clear hK K hown hgrow
        simp only [Act.put, List.getElem_toArray, List.getElem_cons_succ, List.getElem_cons_zero, List.setIfInBounds_toArray, List.set_cons_succ, List.set_cons_zero]
        refine wpAnyH_ready (rs := [5, 10]) (by kernel_rfl) (by simp) ?_
        refine AllReadyH.cons (i := 5) (rs := [10]) rfl (fun K hK => ?_) ?_
        · refine step_make _ rfl _ _ _ rfl 50 i0 _ Tryd.underlying48 HINF.out.1 HINF.out.2.1 HINF.out.2.2.1 n rfl rfl (by rw [HINF.out.2.2.2]; omega) (by unfold maxLen; omega) ?_
          intro wm2 hown hgrow
          refine hK.out _ _ trivial (fun hHeld => ?_)
          have HBg := Hid.mk' (HBg.out.row 1 (by decide) (made_below hgrow) (rowIs_made hown (made_one (.slice none 0 0) rfl n)) (heap_of_row hown))
          clear hK K hown hgrow
          simp only [Act.put, List.getElem_toArray, List.getElem_cons_succ, List.getElem_cons_zero, List.setIfInBounds_toArray, List.set_cons_succ, List.set_cons_zero]
          refine wpAnyH_take (i := 9) (v := ?v9q36) rfl (by kernel_rfl) (by kernel_rfl) (by kernel_rfl) (fun _ _ _ h => h) (Or.inl ⟨by rfl, ?hy9q36⟩) (by assumption) ?rest9q36
          case hy9q36 => (intro w hSw; (try dsimp only at hSw); go_simp <;> (try with_reducible rfl))
          simp only [Act.put, List.getElem_toArray, List.getElem_cons_succ, List.getElem_cons_zero, List.setIfInBounds_toArray, List.set_cons_succ, List.set_cons_zero]
          refine wpAnyH_ready (rs := [10]) (by kernel_rfl) (by simp) ?_
          refine AllReadyH.cons (i := 10) (rs := []) rfl (fun K hK => ?_) ?_
          · go_simp
            refine hK.out _ _ trivial (fun hHeld => ?_)
            have HBg := Hid.mk' (HBg.out.boxed ((Below.refl _ _).alloc (Nat.le_refl _) _) (box_new wm2 55) (by simp))
            clear hK K
            generalize wm2.alloc (.cells #[.slice none 0 0, .slice none 0 0, .slice none 0 0] 55) = Wb at HBg ⊢
            refine wpAnyH_done (by kernel_rfl) ?_ _
            have bb := HBg.out.box _ rfl
            have e0 := bb.row 0 (by decide)
            have e1 := bb.row 1 (by decide)
            have e2 := bb.row 2 (by decide)
            have f0 := bb.fz 0 (by decide)
            have f1 := bb.fz 1 (by decide)
            have f2 := bb.fz 2 (by decide)
            clear bb
            refine ahead_last rfl (fun K hK => ?_)
            go_simp
            refine hK _ _ ?_
            clear hK K
            go_wp2_with fail
            go_meet
            exact ⟨_, _, _, _, rfl, HBg.out.laid rfl rfl rfl rfl⟩
          exact AllReadyH.nil
        refine AllReadyH.cons (i := 10) (rs := []) rfl (fun K hK => ?_) ?_
        · go_simp
          refine hK.out _ _ trivial (fun hHeld => ?_)
          have HBg := Hid.mk' (HBg.out.boxed ((Below.refl _ _).alloc (Nat.le_refl _) _) (box_new wm3 55) (by simp))
          clear hK K
          generalize wm3.alloc (.cells #[.slice none 0 0, .slice none 0 0, .slice none 0 0] 55) = Wb at HBg ⊢
          refine wpAnyH_ready (rs := [5]) (by kernel_rfl) (by simp) ?_
          refine AllReadyH.cons (i := 5) (rs := []) rfl (fun K hK => ?_) ?_
          · refine step_make _ rfl _ _ _ rfl 50 i0 _ Tryd.underlying48 HINF.out.1 HINF.out.2.1 HINF.out.2.2.1 n rfl rfl (by rw [HINF.out.2.2.2]; omega) (by unfold maxLen; omega) ?_
            intro wm1 hown hgrow
            refine hK.out _ _ trivial (fun hHeld => ?_)
            have HBg := Hid.mk' (HBg.out.row 1 (by decide) (made_below hgrow) (rowIs_made hown (made_one (.slice none 0 0) rfl n)) (heap_of_row hown))
            clear hK K hown hgrow
            simp only [Act.put, List.getElem_toArray, List.getElem_cons_succ, List.getElem_cons_zero, List.setIfInBounds_toArray, List.set_cons_succ, List.set_cons_zero]
            refine wpAnyH_take (i := 9) (v := ?v9q39) rfl (by kernel_rfl) (by kernel_rfl) (by kernel_rfl) (fun _ _ _ h => h) (Or.inl ⟨by rfl, ?hy9q39⟩) (by assumption) ?rest9q39
            case hy9q39 => (intro w hSw; (try dsimp only at hSw); go_simp <;> (try with_reducible rfl))
            simp only [Act.put, List.getElem_toArray, List.getElem_cons_succ, List.getElem_cons_zero, List.setIfInBounds_toArray, List.set_cons_succ, List.set_cons_zero]
            refine wpAnyH_done (by kernel_rfl) ?_ _
            have bb := HBg.out.box _ rfl
            have e0 := bb.row 0 (by decide)
            have e1 := bb.row 1 (by decide)
            have e2 := bb.row 2 (by decide)
            have f0 := bb.fz 0 (by decide)
            have f1 := bb.fz 1 (by decide)
            have f2 := bb.fz 2 (by decide)
            clear bb
            refine ahead_last rfl (fun K hK => ?_)
            go_simp
            refine hK _ _ ?_
            clear hK K
            go_wp2_with fail
            go_meet
            exact ⟨_, _, _, _, rfl, HBg.out.laid rfl rfl rfl rfl⟩
          exact AllReadyH.nil
        exact AllReadyH.nil
      refine AllReadyH.cons (i := 5) (rs := [10]) rfl (fun K hK => ?_) ?_
      · refine step_make _ rfl _ _ _ rfl 50 i0 _ Tryd.underlying48 HINF.out.1 HINF.out.2.1 HINF.out.2.2.1 n rfl rfl (by rw [HINF.out.2.2.2]; omega) (by unfold maxLen; omega) ?_
        intro wm3 hown hgrow
        refine hK.out _ _ trivial (fun hHeld => ?_)
        have HBg := Hid.mk' (HBg.out.row 1 (by decide) (made_below hgrow) (rowIs_made hown (made_one (.slice none 0 0) rfl n)) (heap_of_row hown))
        clear hK K hown hgrow
        simp only [Act.put, List.getElem_toArray, List.getElem_cons_succ, List.getElem_cons_zero, List.setIfInBounds_toArray, List.set_cons_succ, List.set_cons_zero]
        refine wpAnyH_ready (rs := [2, 10]) (by kernel_rfl) (by simp) ?_
        refine AllReadyH.cons (i := 2) (rs := [10]) rfl (fun K hK => ?_) ?_
        · refine step_make _ rfl _ _ _ rfl 48 i1 _ Tryd.underlying53 HINR.out.1 HINR.out.2.1 HINR.out.2.2.1 n rfl rfl (by rw [HINR.out.2.2.2]; omega) (by unfold maxLen; omega) ?_
          intro wm2 hown hgrow
          refine hK.out _ _ trivial (fun hHeld => ?_)
          have HBg := Hid.mk' (HBg.out.row 0 (by decide) (made_below hgrow) (rowIs_made hown (made_one (.slice none 0 0) rfl n)) (heap_of_row hown))
          clear hK K hown hgrow
          simp only [Act.put, List.getElem_toArray, List.getElem_cons_succ, List.getElem_cons_zero, List.setIfInBounds_toArray, List.set_cons_succ, List.set_cons_zero]
          refine wpAnyH_take (i := 9) (v := ?v9q41) rfl (by kernel_rfl) (by kernel_rfl) (by kernel_rfl) (fun _ _ _ h => h) (Or.inl ⟨by rfl, ?hy9q41⟩) (by assumption) ?rest9q41
          case hy9q41 => (intro w hSw; (try dsimp only at hSw); go_simp <;> (try with_reducible rfl))
          simp only [Act.put, List.getElem_toArray, List.getElem_cons_succ, List.getElem_cons_zero, List.setIfInBounds_toArray, List.set_cons_succ, List.set_cons_zero]
          refine wpAnyH_ready (rs := [10]) (by kernel_rfl) (by simp) ?_
          refine AllReadyH.cons (i := 10) (rs := []) rfl (fun K hK => ?_) ?_
          · go_simp
            refine hK.out _ _ trivial (fun hHeld => ?_)
            have HBg := Hid.mk' (HBg.out.boxed ((Below.refl _ _).alloc (Nat.le_refl _) _) (box_new wm2 55) (by simp))
            clear hK K
            generalize wm2.alloc (.cells #[.slice none 0 0, .slice none 0 0, .slice none 0 0] 55) = Wb at HBg ⊢
            refine wpAnyH_done (by kernel_rfl) ?_ _
            have bb := HBg.out.box _ rfl
            have e0 := bb.row 0 (by decide)
            have e1 := bb.row 1 (by decide)
            have e2 := bb.row 2 (by decide)
            have f0 := bb.fz 0 (by decide)
            have f1 := bb.fz 1 (by decide)
            have f2 := bb.fz 2 (by decide)
            clear bb
            refine ahead_last rfl (fun K hK => ?_)
            go_simp
            refine hK _ _ ?_
            clear hK K
            go_wp2_with fail
            go_meet
            exact ⟨_, _, _, _, rfl, HBg.out.laid rfl rfl rfl rfl⟩
          exact AllReadyH.nil
        refine AllReadyH.cons (i := 10) (rs := []) rfl (fun K hK => ?_) ?_
        · go_simp
          refine hK.out _ _ trivial (fun hHeld => ?_)
          have HBg := Hid.mk' (HBg.out.boxed ((Below.refl _ _).alloc (Nat.le_refl _) _) (box_new wm3 55) (by simp))
          clear hK K
          generalize wm3.alloc (.cells #[.slice none 0 0, .slice none 0 0, .slice none 0 0] 55) = Wb at HBg ⊢
          refine wpAnyH_ready (rs := [2]) (by kernel_rfl) (by simp) ?_
          refine AllReadyH.cons (i := 2) (rs := []) rfl (fun K hK => ?_) ?_
          · refine step_make _ rfl _ _ _ rfl 48 i1 _ Tryd.underlying53 HINR.out.1 HINR.out.2.1 HINR.out.2.2.1 n rfl rfl (by rw [HINR.out.2.2.2]; omega) (by unfold maxLen; omega) ?_
            intro wm1 hown hgrow
            refine hK.out _ _ trivial (fun hHeld => ?_)
            have HBg := Hid.mk' (HBg.out.row 0 (by decide) (made_below hgrow) (rowIs_made hown (made_one (.slice none 0 0) rfl n)) (heap_of_row hown))
            clear hK K hown hgrow
            simp only [Act.put, List.getElem_toArray, List.getElem_cons_succ, List.getElem_cons_zero, List.setIfInBounds_toArray, List.set_cons_succ, List.set_cons_zero]
            refine wpAnyH_take (i := 9) (v := ?v9q44) rfl (by kernel_rfl) (by kernel_rfl) (by kernel_rfl) (fun _ _ _ h => h) (Or.inl ⟨by rfl, ?hy9q44⟩) (by assumption) ?rest9q44
            case hy9q44 => (intro w hSw; (try dsimp only at hSw); go_simp <;> (try with_reducible rfl))
            simp only [Act.put, List.getElem_toArray, List.getElem_cons_succ, List.getElem_cons_zero, List.setIfInBounds_toArray, List.set_cons_succ, List.set_cons_zero]
            refine wpAnyH_done (by kernel_rfl) ?_ _
            have bb := HBg.out.box _ rfl
            have e0 := bb.row 0 (by decide)
            have e1 := bb.row 1 (by decide)
            have e2 := bb.row 2 (by decide)
            have f0 := bb.fz 0 (by decide)
            have f1 := bb.fz 1 (by decide)
            have f2 := bb.fz 2 (by decide)
            clear bb
            refine ahead_last rfl (fun K hK => ?_)
            go_simp
            refine hK _ _ ?_
            clear hK K
            go_wp2_with fail
            go_meet
            exact ⟨_, _, _, _, rfl, HBg.out.laid rfl rfl rfl rfl⟩
          exact AllReadyH.nil
        exact AllReadyH.nil
      refine AllReadyH.cons (i := 10) (rs := []) rfl (fun K hK => ?_) ?_
      · go_simp
        refine hK.out _ _ trivial (fun hHeld => ?_)
        have HBg := Hid.mk' (HBg.out.boxed ((Below.refl _ _).alloc (Nat.le_refl _) _) (box_new wm4 55) (by simp))
        clear hK K
        generalize wm4.alloc (.cells #[.slice none 0 0, .slice none 0 0, .slice none 0 0] 55) = Wb at HBg ⊢
        refine wpAnyH_ready (rs := [2, 5]) (by kernel_rfl) (by simp) ?_
        refine AllReadyH.cons (i := 2) (rs := [5]) rfl (fun K hK => ?_) ?_
        · refine step_make _ rfl _ _ _ rfl 48 i1 _ Tryd.underlying53 HINR.out.1 HINR.out.2.1 HINR.out.2.2.1 n rfl rfl (by rw [HINR.out.2.2.2]; omega) (by unfold maxLen; omega) ?_
          intro wm2 hown hgrow
          refine hK.out _ _ trivial (fun hHeld => ?_)
          have HBg := Hid.mk' (HBg.out.row 0 (by decide) (made_below hgrow) (rowIs_made hown (made_one (.slice none 0 0) rfl n)) (heap_of_row hown))
          clear hK K hown hgrow
          simp only [Act.put, List.getElem_toArray, List.getElem_cons_succ, List.getElem_cons_zero, List.setIfInBounds_toArray, List.set_cons_succ, List.set_cons_zero]
          refine wpAnyH_ready (rs := [5]) (by kernel_rfl) (by simp) ?_
          refine AllReadyH.cons (i := 5) (rs := []) rfl (fun K hK => ?_) ?_
          · refine step_make _ rfl _ _ _ rfl 50 i0 _ Tryd.underlying48 HINF.out.1 HINF.out.2.1 HINF.out.2.2.1 n rfl rfl (by rw [HINF.out.2.2.2]; omega) (by unfold maxLen; omega) ?_
            intro wm1 hown hgrow
            refine hK.out _ _ trivial (fun hHeld => ?_)
            have HBg := Hid.mk' (HBg.out.row 1 (by decide) (made_below hgrow) (rowIs_made hown (made_one (.slice none 0 0) rfl n)) (heap_of_row hown))
            clear hK K hown hgrow
            simp only [Act.put, List.getElem_toArray, List.getElem_cons_succ, List.getElem_cons_zero, List.setIfInBounds_toArray, List.set_cons_succ, List.set_cons_zero]
            refine wpAnyH_take (i := 9) (v := ?v9q47) rfl (by kernel_rfl) (by kernel_rfl) (by kernel_rfl) (fun _ _ _ h => h) (Or.inl ⟨by rfl, ?hy9q47⟩) (by assumption) ?rest9q47
            case hy9q47 => (intro w hSw; (try dsimp only at hSw); go_simp <;> (try with_reducible rfl))
            simp only [Act.put, List.getElem_toArray, List.getElem_cons_succ, List.getElem_cons_zero, List.setIfInBounds_toArray, List.set_cons_succ, List.set_cons_zero]
            refine wpAnyH_done (by kernel_rfl) ?_ _
            have bb := HBg.out.box _ rfl
            have e0 := bb.row 0 (by decide)
            have e1 := bb.row 1 (by decide)
            have e2 := bb.row 2 (by decide)
            have f0 := bb.fz 0 (by decide)
            have f1 := bb.fz 1 (by decide)
            have f2 := bb.fz 2 (by decide)
            clear bb
            refine ahead_last rfl (fun K hK => ?_)
            go_simp
            refine hK _ _ ?_
            clear hK K
            go_wp2_with fail
            go_meet
            exact ⟨_, _, _, _, rfl, HBg.out.laid rfl rfl rfl rfl⟩
          exact AllReadyH.nil
        refine AllReadyH.cons (i := 5) (rs := []) rfl (fun K hK => ?_) ?_
        · refine step_make _ rfl _ _ _ rfl 50 i0 _ Tryd.underlying48 HINF.out.1 HINF.out.2.1 HINF.out.2.2.1 n rfl rfl (by rw [HINF.out.2.2.2]; omega) (by unfold maxLen; omega) ?_
          intro wm2 hown hgrow
          refine hK.out _ _ trivial (fun hHeld => ?_)
          have HBg := Hid.mk' (HBg.out.row 1 (by decide) (made_below hgrow) (rowIs_made hown (made_one (.slice none 0 0) rfl n)) (heap_of_row hown))
          clear hK K hown hgrow
          simp only [Act.put, List.getElem_toArray, List.getElem_cons_succ, List.getElem_cons_zero, List.setIfInBounds_toArray, List.set_cons_succ, List.set_cons_zero]
          refine wpAnyH_ready (rs := [2]) (by kernel_rfl) (by simp) ?_
          refine AllReadyH.cons (i := 2) (rs := []) rfl (fun K hK => ?_) ?_
          · refine step_make _ rfl _ _ _ rfl 48 i1 _ Tryd.underlying53 HINR.out.1 HINR.out.2.1 HINR.out.2.2.1 n rfl rfl (by rw [HINR.out.2.2.2]; omega) (by unfold maxLen; omega) ?_
            intro wm1 hown hgrow
            refine hK.out _ _ trivial (fun hHeld => ?_)
            have HBg := Hid.mk' (HBg.out.row 0 (by decide) (made_below hgrow) (rowIs_made hown (made_one (.slice none 0 0) rfl n)) (heap_of_row hown))
            clear hK K hown hgrow
            simp only [Act.put, List.getElem_toArray, List.getElem_cons_succ, List.getElem_cons_zero, List.setIfInBounds_toArray, List.set_cons_succ, List.set_cons_zero]
            refine wpAnyH_take (i := 9) (v := ?v9q49) rfl (by kernel_rfl) (by kernel_rfl) (by kernel_rfl) (fun _ _ _ h => h) (Or.inl ⟨by rfl, ?hy9q49⟩) (by assumption) ?rest9q49
            case hy9q49 => (intro w hSw; (try dsimp only at hSw); go_simp <;> (try with_reducible rfl))
            simp only [Act.put, List.getElem_toArray, List.getElem_cons_succ, List.getElem_cons_zero, List.setIfInBounds_toArray, List.set_cons_succ, List.set_cons_zero]
            refine wpAnyH_done (by kernel_rfl) ?_ _
            have bb := HBg.out.box _ rfl
            have e0 := bb.row 0 (by decide)
            have e1 := bb.row 1 (by decide)
            have e2 := bb.row 2 (by decide)
            have f0 := bb.fz 0 (by decide)
            have f1 := bb.fz 1 (by decide)
            have f2 := bb.fz 2 (by decide)
            clear bb
            refine ahead_last rfl (fun K hK => ?_)
            go_simp
            refine hK _ _ ?_
            clear hK K
            go_wp2_with fail
            go_meet
            exact ⟨_, _, _, _, rfl, HBg.out.laid rfl rfl rfl rfl⟩
          exact AllReadyH.nil
        exact AllReadyH.nil
      exact AllReadyH.nil
    refine AllReadyH.cons (i := 10) (rs := []) rfl (fun K hK => ?_) ?_
    · go_simp
      refine hK.out _ _ trivial (fun hHeld => ?_)
      have HBg := Hid.mk' (HBg.out.boxed ((Below.refl _ _).alloc (Nat.le_refl _) _) (box_new Wd 55) (by simp))
      clear hK K
      generalize Wd.alloc (.cells #[.slice none 0 0, .slice none 0 0, .slice none 0 0] 55) = Wb at HBg ⊢
      refine wpAnyH_ready (rs := [2, 5, 8]) (by kernel_rfl) (by simp) ?_
      refine AllReadyH.cons (i := 2) (rs := [5, 8]) rfl (fun K hK => ?_) ?_
      · refine step_make _ rfl _ _ _ rfl 48 i1 _ Tryd.underlying53 HINR.out.1 HINR.out.2.1 HINR.out.2.2.1 n rfl rfl (by rw [HINR.out.2.2.2]; omega) (by unfold maxLen; omega) ?_
        intro wm3 hown hgrow
        refine hK.out _ _ trivial (fun hHeld => ?_)
        have HBg := Hid.mk' (HBg.out.row 0 (by decide) (made_below hgrow) (rowIs_made hown (made_one (.slice none 0 0) rfl n)) (heap_of_row hown))
        clear hK K hown hgrow
        simp only [Act.put, List.getElem_toArray, List.getElem_cons_succ, List.getElem_cons_zero, List.setIfInBounds_toArray, List.set_cons_succ, List.set_cons_zero]
        refine wpAnyH_ready (rs := [5, 8]) (by kernel_rfl) (by simp) ?_
        refine AllReadyH.cons (i := 5) (rs := [8]) rfl (fun K hK => ?_) ?_
        · refine step_make _ rfl _ _ _ rfl 50 i0 _ Tryd.underlying48 HINF.out.1 HINF.out.2.1 HINF.out.2.2.1 n rfl rfl (by rw [HINF.out.2.2.2]; omega) (by unfold maxLen; omega) ?_
          intro wm2 hown hgrow
          refine hK.out _ _ trivial (fun hHeld => ?_)
          have HBg := Hid.mk' (HBg.out.row 1 (by decide) (made_below hgrow) (rowIs_made hown (made_one (.slice none 0 0) rfl n)) (heap_of_row hown))
          clear hK K hown hgrow
          simp only [Act.put, List.getElem_toArray, List.getElem_cons_succ, List.getElem_cons_zero, List.setIfInBounds_toArray, List.set_cons_succ, List.set_cons_zero]
          refine wpAnyH_ready (rs := [8]) (by kernel_rfl) (by simp) ?_
          refine AllReadyH.cons (i := 8) (rs := []) rfl (fun K hK => ?_) ?_
          · refine step_make _ rfl _ _ _ rfl 50 i0 _ Tryd.underlying48 HINF.out.1 HINF.out.2.1 HINF.out.2.2.1 n rfl rfl (by rw [HINF.out.2.2.2]; omega) (by unfold maxLen; omega) ?_
            intro wm1 hown hgrow
            refine hK.out _ _ trivial (fun hHeld => ?_)
            have HBg := Hid.mk' (HBg.out.row 2 (by decide) (made_below hgrow) (rowIs_made hown (made_one (.slice none 0 0) rfl n)) (heap_of_row hown))
            clear hK K hown hgrow
            simp only [Act.put, List.getElem_toArray, List.getElem_cons_succ, List.getElem_cons_zero, List.setIfInBounds_toArray, List.set_cons_succ, List.set_cons_zero]
            refine wpAnyH_take (i := 9) (v := ?v9q53) rfl (by kernel_rfl) (by kernel_rfl) (by kernel_rfl) (fun _ _ _ h => h) (Or.inl ⟨by rfl, ?hy9q53⟩) (by assumption) ?rest9q53
            case hy9q53 => (intro w hSw; (try dsimp only at hSw); go_simp <;> (try with_reducible rfl))
            simp only [Act.put, List.getElem_toArray, List.getElem_cons_succ, List.getElem_cons_zero, List.setIfInBounds_toArray, List.set_cons_succ, List.set_cons_zero]
            refine wpAnyH_done (by kernel_rfl) ?_ _
            have bb := HBg.out.box _ rfl
            have e0 := bb.row 0 (by decide)
            have e1 := bb.row 1 (by decide)
            have e2 := bb.row 2 (by decide)
            have f0 := bb.fz 0 (by decide)
            have f1 := bb.fz 1 (by decide)
            have f2 := bb.fz 2 (by decide)
            clear bb
            refine ahead_last rfl (fun K hK => ?_)
            go_simp
            refine hK _ _ ?_
            clear hK K
            go_wp2_with fail
            go_meet
            exact ⟨_, _, _, _, rfl, HBg.out.laid rfl rfl rfl rfl⟩
          exact AllReadyH.nil
        refine AllReadyH.cons (i := 8) (rs := []) rfl (fun K hK => ?_) ?_
        · refine step_make _ rfl _ _ _ rfl 50 i0 _ Tryd.underlying48 HINF.out.1 HINF.out.2.1 HINF.out.2.2.1 n rfl rfl (by rw [HINF.out.2.2.2]; omega) (by unfold maxLen; omega) ?_
          intro wm2 hown hgrow
          refine hK.out _ _ trivial (fun hHeld => ?_)
          have HBg := Hid.mk' (HBg.out.row 2 (by decide) (made_below hgrow) (rowIs_made hown (made_one (.slice none 0 0) rfl n)) (heap_of_row hown))
          clear hK K hown hgrow
          simp only [Act.put, List.getElem_toArray, List.getElem_cons_succ, List.getElem_cons_zero, List.setIfInBounds_toArray, List.set_cons_succ, List.set_cons_zero]
          refine wpAnyH_ready (rs := [5]) (by kernel_rfl) (by simp) ?_
          refine AllReadyH.cons (i := 5) (rs := []) rfl (fun K hK => ?_) ?_
          · refine step_make _ rfl _ _ _ rfl 50 i0 _ Tryd.underlying48 HINF.out.1 HINF.out.2.1 HINF.out.2.2.1 n rfl rfl (by rw [HINF.out.2.2.2]; omega) (by unfold maxLen; omega) ?_
            intro wm1 hown hgrow
            refine hK.out _ _ trivial (fun hHeld => ?_)
            have HBg := Hid.mk' (HBg.out.row 1 (by decide) (made_below hgrow) (rowIs_made hown (made_one (.slice none 0 0) rfl n)) (heap_of_row hown))
            clear hK K hown hgrow
            simp only [Act.put, List.getElem_toArray, List.getElem_cons_succ, List.getElem_cons_zero, List.setIfInBounds_toArray, List.set_cons_succ, List.set_cons_zero]
            refine wpAnyH_take (i := 9) (v := ?v9q55) rfl (by kernel_rfl) (by kernel_rfl) (by kernel_rfl) (fun _ _ _ h => h) (Or.inl ⟨by rfl, ?hy9q55⟩) (by assumption) ?rest9q55
            case hy9q55 => (intro w hSw; (try dsimp only at hSw); go_simp <;> (try with_reducible rfl))
            simp only [Act.put, List.getElem_toArray, List.getElem_cons_succ, List.getElem_cons_zero, List.setIfInBounds_toArray, List.set_cons_succ, List.set_cons_zero]
            refine wpAnyH_done (by kernel_rfl) ?_ _
            have bb := HBg.out.box _ rfl
            have e0 := bb.row 0 (by decide)
            have e1 := bb.row 1 (by decide)
            have e2 := bb.row 2 (by decide)
            have f0 := bb.fz 0 (by decide)
            have f1 := bb.fz 1 (by decide)
            have f2 := bb.fz 2 (by decide)
            clear bb
            refine ahead_last rfl (fun K hK => ?_)
            go_simp
            refine hK _ _ ?_
            clear hK K
            go_wp2_with fail
            go_meet
            exact ⟨_, _, _, _, rfl, HBg.out.laid rfl rfl rfl rfl⟩
          exact AllReadyH.nil
        exact AllReadyH.nil
      refine AllReadyH.cons (i := 5) (rs := [8]) rfl (fun K hK => ?_) ?_
      · refine step_make _ rfl _ _ _ rfl 50 i0 _ Tryd.underlying48 HINF.out.1 HINF.out.2.1 HINF.out.2.2.1 n rfl rfl (by rw [HINF.out.2.2.2]; omega) (by unfold maxLen; omega) ?_
        intro wm3 hown hgrow
        refine hK.out _ _ trivial (fun hHeld => ?_)
        have HBg := Hid.mk' (HBg.out.row 1 (by decide) (made_below hgrow) (rowIs_made hown (made_one (.slice none 0 0) rfl n)) (heap_of_row hown))
        clear hK K hown hgrow
        simp only [Act.put, List.getElem_toArray, List.getElem_cons_succ, List.getElem_cons_zero, List.setIfInBounds_toArray, List.set_cons_succ, List.set_cons_zero]
        refine wpAnyH_ready (rs := [2, 8]) (by kernel_rfl) (by simp) ?_
        refine AllReadyH.cons (i := 2) (rs := [8]) rfl (fun K hK => ?_) ?_
        · refine step_make _ rfl _ _ _ rfl 48 i1 _ Tryd.underlying53 HINR.out.1 HINR.out.2.1 HINR.out.2.2.1 n rfl rfl (by rw [HINR.out.2.2.2]; omega) (by unfold maxLen; omega) ?_
          intro wm2 hown hgrow
          refine hK.out _ _ trivial (fun hHeld => ?_)
          have HBg := Hid.mk' (HBg.out.row 0 (by decide) (made_below hgrow) (rowIs_made hown (made_one (.slice none 0 0) rfl n)) (heap_of_row hown))
          clear hK K hown hgrow
          simp only [Act.put, List.getElem_toArray, List.getElem_cons_succ, List.getElem_cons_zero, List.setIfInBounds_toArray, List.set_cons_succ, List.set_cons_zero]
          refine wpAnyH_ready (rs := [8]) (by kernel_rfl) (by simp) ?_
          refine AllReadyH.cons (i := 8) (rs := []) rfl (fun K hK => ?_) ?_
          · refine step_make _ rfl _ _ _ rfl 50 i0 _ Tryd.underlying48 HINF.out.1 HINF.out.2.1 HINF.out.2.2.1 n rfl rfl (by rw [HINF.out.2.2.2]; omega) (by unfold maxLen; omega) ?_
            intro wm1 hown hgrow
            refine hK.out _ _ trivial (fun hHeld => ?_)
            have HBg := Hid.mk' (HBg.out.row 2 (by decide) (made_below hgrow) (rowIs_made hown (made_one (.slice none 0 0) rfl n)) (heap_of_row hown))
            clear hK K hown hgrow
            simp only [Act.put, List.getElem_toArray, List.getElem_cons_succ, List.getElem_cons_zero, List.setIfInBounds_toArray, List.set_cons_succ, List.set_cons_zero]
            refine wpAnyH_take (i := 9) (v := ?v9q58) rfl (by kernel_rfl) (by kernel_rfl) (by kernel_rfl) (fun _ _ _ h => h) (Or.inl ⟨by rfl, ?hy9q58⟩) (by assumption) ?rest9q58
            case hy9q58 => (intro w hSw; (try dsimp only at hSw); go_simp <;> (try with_reducible rfl))
            simp only [Act.put, List.getElem_toArray, List.getElem_cons_succ, List.getElem_cons_zero, List.setIfInBounds_toArray, List.set_cons_succ, List.set_cons_zero]
            refine wpAnyH_done (by kernel_rfl) ?_ _
            have bb := HBg.out.box _ rfl
            have e0 := bb.row 0 (by decide)
            have e1 := bb.row 1 (by decide)
            have e2 := bb.row 2 (by decide)
            have f0 := bb.fz 0 (by decide)
            have f1 := bb.fz 1 (by decide)
            have f2 := bb.fz 2 (by decide)
            clear bb
            refine ahead_last rfl (fun K hK => ?_)
            go_simp
            refine hK _ _ ?_
            clear hK K
            go_wp2_with fail
            go_meet
            exact ⟨_, _, _, _, rfl, HBg.out.laid rfl rfl rfl rfl⟩
          exact AllReadyH.nil
        refine AllReadyH.cons (i := 8) (rs := []) rfl (fun K hK => ?_) ?_
        · refine step_make _ rfl _ _ _ rfl 50 i0 _ Tryd.underlying48 HINF.out.1 HINF.out.2.1 HINF.out.2.2.1 n rfl rfl (by rw [HINF.out.2.2.2]; omega) (by unfold maxLen; omega) ?_
          intro wm2 hown hgrow
          refine hK.out _ _ trivial (fun hHeld => ?_)
          have HBg := Hid.mk' (HBg.out.row 2 (by decide) (made_below hgrow) (rowIs_made hown (made_one (.slice none 0 0) rfl n)) (heap_of_row hown))
          clear hK K hown hgrow
          simp only [Act.put, List.getElem_toArray, List.getElem_cons_succ, List.getElem_cons_zero, List.setIfInBounds_toArray, List.set_cons_succ, List.set_cons_zero]
          refine wpAnyH_ready (rs := [2]) (by kernel_rfl) (by simp) ?_
          refine AllReadyH.cons (i := 2) (rs := []) rfl (fun K hK => ?_) ?_
          · refine step_make _ rfl _ _ _ rfl 48 i1 _ Tryd.underlying53 HINR.out.1 HINR.out.2.1 HINR.out.2.2.1 n rfl rfl (by rw [HINR.out.2.2.2]; omega) (by unfold maxLen; omega) ?_
            intro wm1 hown hgrow
            refine hK.out _ _ trivial (fun hHeld => ?_)
            have HBg := Hid.mk' (HBg.out.row 0 (by decide) (made_below hgrow) (rowIs_made hown (made_one (.slice none 0 0) rfl n)) (heap_of_row hown))
            clear hK K hown hgrow
            simp only [Act.put, List.getElem_toArray, List.getElem_cons_succ, List.getElem_cons_zero, List.setIfInBounds_toArray, List.set_cons_succ, List.set_cons_zero]
            refine wpAnyH_take (i := 9) (v := ?v9q60) rfl (by kernel_rfl) (by kernel_rfl) (by kernel_rfl) (fun _ _ _ h => h) (Or.inl ⟨by rfl, ?hy9q60⟩) (by assumption) ?rest9q60
            case hy9q60 => (intro w hSw; (try dsimp only at hSw); go_simp <;> (try with_reducible rfl))
            simp only [Act.put, List.getElem_toArray, List.getElem_cons_succ, List.getElem_cons_zero, List.setIfInBounds_toArray, List.set_cons_succ, List.set_cons_zero]
            refine wpAnyH_done (by kernel_rfl) ?_ _
            have bb := HBg.out.box _ rfl
            have e0 := bb.row 0 (by decide)
            have e1 := bb.row 1 (by decide)
            have e2 := bb.row 2 (by decide)
            have f0 := bb.fz 0 (by decide)
            have f1 := bb.fz 1 (by decide)
            have f2 := bb.fz 2 (by decide)
            clear bb
            refine ahead_last rfl (fun K hK => ?_)
            go_simp
            refine hK _ _ ?_
            clear hK K
            go_wp2_with fail
            go_meet
            exact ⟨_, _, _, _, rfl, HBg.out.laid rfl rfl rfl rfl⟩
          exact AllReadyH.nil
        exact AllReadyH.nil
      refine AllReadyH.cons (i := 8) (rs := []) rfl (fun K hK => ?_) ?_
      · refine step_make _ rfl _ _ _ rfl 50 i0 _ Tryd.underlying48 HINF.out.1 HINF.out.2.1 HINF.out.2.2.1 n rfl rfl (by rw [HINF.out.2.2.2]; omega) (by unfold maxLen; omega) ?_
        intro wm3 hown hgrow
        refine hK.out _ _ trivial (fun hHeld => ?_)
        have HBg := Hid.mk' (HBg.out.row 2 (by decide) (made_below hgrow) (rowIs_made hown (made_one (.slice none 0 0) rfl n)) (heap_of_row hown))
        clear hK K hown hgrow
        simp only [Act.put, List.getElem_toArray, List.getElem_cons_succ, List.getElem_cons_zero, List.setIfInBounds_toArray, List.set_cons_succ, List.set_cons_zero]
        refine wpAnyH_ready (rs := [2, 5]) (by kernel_rfl) (by simp) ?_
        refine AllReadyH.cons (i := 2) (rs := [5]) rfl (fun K hK => ?_) ?_
        · refine step_make _ rfl _ _ _ rfl 48 i1 _ Tryd.underlying53 HINR.out.1 HINR.out.2.1 HINR.out.2.2.1 n rfl rfl (by rw [HINR.out.2.2.2]; omega) (by unfold maxLen; omega) ?_
          intro wm2 hown hgrow
          refine hK.out _ _ trivial (fun hHeld => ?_)
          have HBg := Hid.mk' (HBg.out.row 0 (by decide) (made_below hgrow) (rowIs_made hown (made_one (.slice none 0 0) rfl n)) (heap_of_row hown))
          clear hK K hown hgrow
          simp only [Act.put, List.getElem_toArray, List.getElem_cons_succ, List.getElem_cons_zero, List.setIfInBounds_toArray, List.set_cons_succ, List.set_cons_zero]
          refine wpAnyH_ready (rs := [5]) (by kernel_rfl) (by simp) ?_
          refine AllReadyH.cons (i := 5) (rs := []) rfl (fun K hK => ?_) ?_
          · refine step_make _ rfl _ _ _ rfl 50 i0 _ Tryd.underlying48 HINF.out.1 HINF.out.2.1 HINF.out.2.2.1 n rfl rfl (by rw [HINF.out.2.2.2]; omega) (by unfold maxLen; omega) ?_
            intro wm1 hown hgrow
            refine hK.out _ _ trivial (fun hHeld => ?_)
            have HBg := Hid.mk' (HBg.out.row 1 (by decide) (made_below hgrow) (rowIs_made hown (made_one (.slice none 0 0) rfl n)) (heap_of_row hown))
            clear hK K hown hgrow
            simp only [Act.put, List.getElem_toArray, List.getElem_cons_succ, List.getElem_cons_zero, List.setIfInBounds_toArray, List.set_cons_succ, List.set_cons_zero]
            refine wpAnyH_take (i := 9) (v := ?v9q63) rfl (by kernel_rfl) (by kernel_rfl) (by kernel_rfl) (fun _ _ _ h => h) (Or.inl ⟨by rfl, ?hy9q63⟩) (by assumption) ?rest9q63
            case hy9q63 => (intro w hSw; (try dsimp only at hSw); go_simp <;> (try with_reducible rfl))
            simp only [Act.put, List.getElem_toArray, List.getElem_cons_succ, List.getElem_cons_zero, List.setIfInBounds_toArray, List.set_cons_succ, List.set_cons_zero]
            refine wpAnyH_done (by kernel_rfl) ?_ _
            have bb := HBg.out.box _ rfl
            have e0 := bb.row 0 (by decide)
            have e1 := bb.row 1 (by decide)
            have e2 := bb.row 2 (by decide)
            have f0 := bb.fz 0 (by decide)
            have f1 := bb.fz 1 (by decide)
            have f2 := bb.fz 2 (by decide)
            clear bb
            refine ahead_last rfl (fun K hK => ?_)
            go_simp
            refine hK _ _ ?_
            clear hK K
            go_wp2_with fail
            go_meet
            exact ⟨_, _, _, _, rfl, HBg.out.laid rfl rfl rfl rfl⟩
          exact AllReadyH.nil
        refine AllReadyH.cons (i := 5) (rs := []) rfl (fun K hK => ?_) ?_
        · refine step_make _ rfl _ _ _ rfl 50 i0 _ Tryd.underlying48 HINF.out.1 HINF.out.2.1 HINF.out.2.2.1 n rfl rfl (by rw [HINF.out.2.2.2]; omega) (by unfold maxLen; omega) ?_
          intro wm2 hown hgrow
          refine hK.out _ _ trivial (fun hHeld => ?_)
          have HBg := Hid.mk' (HBg.out.row 1 (by decide) (made_below hgrow) (rowIs_made hown (made_one (.slice none 0 0) rfl n)) (heap_of_row hown))
          clear hK K hown hgrow
          simp only [Act.put, List.getElem_toArray, List.getElem_cons_succ, List.getElem_cons_zero, List.setIfInBounds_toArray, List.set_cons_succ, List.set_cons_zero]
          refine wpAnyH_ready (rs := [2]) (by kernel_rfl) (by simp) ?_
          refine AllReadyH.cons (i := 2) (rs := []) rfl (fun K hK => ?_) ?_
          · refine step_make _ rfl _ _ _ rfl 48 i1 _ Tryd.underlying53 HINR.out.1 HINR.out.2.1 HINR.out.2.2.1 n rfl rfl (by rw [HINR.out.2.2.2]; omega) (by unfold maxLen; omega) ?_
            intro wm1 hown hgrow
            refine hK.out _ _ trivial (fun hHeld => ?_)
            have HBg := Hid.mk' (HBg.out.row 0 (by decide) (made_below hgrow) (rowIs_made hown (made_one (.slice none 0 0) rfl n)) (heap_of_row hown))
            clear hK K hown hgrow
            simp only [Act.put, List.getElem_toArray, List.getElem_cons_succ, List.getElem_cons_zero, List.setIfInBounds_toArray, List.set_cons_succ, List.set_cons_zero]
            refine wpAnyH_take (i := 9) (v := ?v9q65) rfl (by kernel_rfl) (by kernel_rfl) (by kernel_rfl) (fun _ _ _ h => h) (Or.inl ⟨by rfl, ?hy9q65⟩) (by assumption) ?rest9q65
            case hy9q65 => (intro w hSw; (try dsimp only at hSw); go_simp <;> (try with_reducible rfl))
            simp only [Act.put, List.getElem_toArray, List.getElem_cons_succ, List.getElem_cons_zero, List.setIfInBounds_toArray, List.set_cons_succ, List.set_cons_zero]
            refine wpAnyH_done (by kernel_rfl) ?_ _
            have bb := HBg.out.box _ rfl
            have e0 := bb.row 0 (by decide)
            have e1 := bb.row 1 (by decide)
            have e2 := bb.row 2 (by decide)
            have f0 := bb.fz 0 (by decide)
            have f1 := bb.fz 1 (by decide)
            have f2 := bb.fz 2 (by decide)
            clear bb
            refine ahead_last rfl (fun K hK => ?_)
            go_simp
            refine hK _ _ ?_
            clear hK K
            go_wp2_with fail
            go_meet
            exact ⟨_, _, _, _, rfl, HBg.out.laid rfl rfl rfl rfl⟩
          exact AllReadyH.nil
        exact AllReadyH.nil
      exact AllReadyH.nil
    exact AllReadyH.nil
  case rest =>
  obtain ⟨g, gt, go, fb, rfl, HL⟩ := hcut
  obtain ⟨V, hV⟩ : ∃ V, V = fold0 l zs N n := ⟨_, rfl⟩
  have HVD := Hid.mk' hV
  have HF := Hid.mk' HL.out.fixed
  have HBD := Hid.mk' (build_start HL.out (fun _ _ => .slice none 0 0) V)
  generalize wc.heap.size = B at *
  clear HL hV
  go_wp2_with fail
  go_loopw [23] (fun t wr => ∃ (i : Nat) (rv : Nat → Value) (f : Nat → Nat → Value) (tf : Nat → Value), i ≤ n ∧ t = .int .i64 i ∧ Hid (Build W0 wr B n g gt go fb (lenAt n i 0) rv f tf V (fun r => if r < i then V n r else 0))) (fun t _ => n - (intOf t).toNat)
  case atStart => exact ⟨0, _, _, _, Nat.zero_le _, rfl, by simpa using HBD⟩
  case round =>
    clear HBD
    obtain ⟨i, rv, f, tf, hi, rfl, HBD⟩ := hrel
    rcases Nat.lt_or_ge i n with h1 | h1
    · have hiI : (i : Int) < (n : Int) := by omega
      have hi0 : (0 : Int) ≤ (i : Int) := by omega
      have hst := HSR.out wr (below_chain HB0.out HBD.out.below) i h1
      have hfN := HLN.out i h1
      obtain ⟨from_, hfrom⟩ : ∃ from_, from_ = l.getD i 0 := ⟨_, rfl⟩
      have HFR := Hid.mk' hfrom
      rw [← hfrom] at hst hfN
      clear hfrom
      have hf0 : (0 : Int) ≤ (from_ : Int) := by omega
      have hfI : (from_ : Int) < (N : Int) := by omega
      go_wp2_with fail
      obtain ⟨Wr, hWr⟩ : ∃ Wr, Wr = wr := ⟨_, rfl⟩
      rw [← hWr] at HBD ⊢
      clear hWr hst
      go_loopw [30] (fun t wr => ∃ (k : Nat) (rv : Nat → Value) (f : Nat → Nat → Value), k ≤ n ∧ t = .int .i64 k ∧ Hid (Build W0 wr B n g gt go fb (lenAt n i k) rv f tf V (fun r => if r < i then V n r else 0))) (fun t _ => n - (intOf t).toNat)
      case atStart => exact ⟨0, _, _, Nat.zero_le _, rfl, HBD⟩
      case round =>
        clear HBD
        obtain ⟨k, rv, f, hk, rfl, HBD⟩ := hrel
        rcases Nat.lt_or_ge k n with h2 | h2
        · have hkI : (k : Int) < (n : Int) := by omega
          have hk0 : (0 : Int) ≤ (k : Int) := by omega
          have hst := HSR.out wr (below_chain HB0.out HBD.out.below) k h2
          have hkN := HLN.out k h2
          obtain ⟨kk, hkk⟩ : ∃ kk, kk = l.getD k 0 := ⟨_, rfl⟩
          have HKK := Hid.mk' hkk
          rw [← hkk] at hst hkN
          clear hkk
          have hq0 : (0 : Int) ≤ (kk : Int) := by omega
          have hqI : (kk : Int) < (N : Int) := by omega
          obtain ⟨b1, o1, cap1, y2w, hrow⟩ := HC.out w (Below.refl _ _) from_ hfN
          have hcb : cb < w.heap.size := cell_lt y2w
          have hb1 : b1 < w.heap.size := cell_lt (hrow kk hkN)
          have hWB : w.heap.size < B := Nat.lt_of_le_of_lt (Nat.le_trans HB0.out.size HF.out.ge.1) HF.out.lt.1
          have y2 : wr.cell? ⟨cb, co + from_, none⟩ = some (.slice (some ⟨b1, o1, none⟩) N cap1) := by rw [(below_chain HB0.out HBD.out.below).cell hcb]; exact y2w
          have y3 : wr.cell? ⟨b1, o1 + kk, none⟩ = some (.int .i64 (zs from_ kk)) := by rw [(below_chain HB0.out HBD.out.below).cell hb1]; exact hrow kk hkN
          have hzb := (HZ.out from_ hfN).lt hkN
          obtain ⟨x, hx⟩ : ∃ x : Nat, zs from_ kk = (x : Int) := ⟨(zs from_ kk).toNat, by omega⟩
          rw [hx] at y3 hzb
          have hx4 : x ≤ 4096 := by omega
          have HXV : Hid (V i k = x) := by show _ = _; rw [HVD.out]; unfold fold0; rw [if_pos h1, ← HFR.out, ← HKK.out, hx]; simp
          have hxw : IntKind.u64.wrap (x : Int) = (x : Int) := by rw [IntKind.wrap_u64]; omega
          have y0 := HBD.out.c0
          have y1 := HBD.out.outer.row i h1
          have y5 := HBD.out.outer.fz i h1
          obtain ⟨ra, rl, rc, hre⟩ : ∃ ra rl rc, rv i = .slice ra rl rc := by
            rcases (HBD.out.own i h1).2 with ⟨e, _⟩ | ⟨_, _, _, e, _⟩ <;> exact ⟨_, _, _, e⟩
          have HRE := Hid.mk' hre
          rw [hre] at y1
          have HKS : Hid (∀ W, Below wr.heap.size wr W → (W.cell? ⟨fb, 0, none⟩ = some (.slice (some ⟨g, 0, none⟩) n n) ∧ W.cell? ⟨g, i, none⟩ = some (.slice ra rl rc) ∧ W.cell? ⟨cb, co + from_, none⟩ = some (.slice (some ⟨b1, o1, none⟩) N cap1) ∧ W.cell? ⟨b1, o1 + kk, none⟩ = some (.int .i64 (x : Int)))) := fun W hb => ⟨by rw [hb.cell (cell_lt y0)]; exact y0, by rw [hb.cell (cell_lt y1)]; exact y1, by rw [hb.cell (cell_lt y2)]; exact y2, by rw [hb.cell (cell_lt y3)]; exact y3⟩
          clear hrow hre hx y2w
          go_wp2_with fail
          have hcur : Below wr.heap.size wr wr.drew := (Below.refl _ _).drew
          clear y0 y1 y2 y3
          refine region_but_last (n := 20) (S := fun W => W.cell? ⟨fb, 0, none⟩ = some (.slice (some ⟨g, 0, none⟩) n n) ∧ W.cell? ⟨g, i, none⟩ = some (.slice ra rl rc) ∧ W.cell? ⟨cb, co + from_, none⟩ = some (.slice (some ⟨b1, o1, none⟩) N cap1) ∧ W.cell? ⟨b1, o1 + kk, none⟩ = some (.int .i64 (x : Int))) (by kernel_rfl) (by kernel_rfl) (by kernel_rfl) (HKS.out _ hcur) (fun hHeld => ?_)
          refine wpAnyH_take (i := 0) (v := ?v0g) rfl (by kernel_rfl) (by kernel_rfl) (by kernel_rfl) (fun _ _ _ h => h) (Or.inl ⟨by rfl, ?hy0g⟩) (by assumption) ?rest0g
          case hy0g => (intro w hSw; (try dsimp only at hSw); go_simp <;> (try with_reducible rfl))
          simp only [Act.put, List.getElem_toArray, List.getElem_cons_zero, List.setIfInBounds_toArray, List.set_cons_succ, List.set_cons_zero]
          refine wpAnyH_take (i := 1) (v := ?v1g) rfl (by kernel_rfl) (by kernel_rfl) (by kernel_rfl) (fun _ _ _ h => h) (Or.inl ⟨by rfl, ?hy1g⟩) (by assumption) ?rest1g
          case hy1g => (intro w hSw; (try dsimp only at hSw); go_simp <;> (try with_reducible rfl))
          simp only [Act.put, List.getElem_toArray, List.getElem_cons_succ, List.getElem_cons_zero, List.setIfInBounds_toArray, List.set_cons_succ, List.set_cons_zero]
          refine wpAnyH_take (i := 2) (v := ?v2g) rfl (by kernel_rfl) (by kernel_rfl) (by kernel_rfl) (fun _ _ _ h => h) (Or.inl ⟨by rfl, ?hy2g⟩) (by assumption) ?rest2g
          case hy2g => (intro w hSw; (try dsimp only at hSw); go_simp <;> (try with_reducible rfl))
          simp only [Act.put, List.getElem_toArray, List.getElem_cons_succ, List.getElem_cons_zero, List.setIfInBounds_toArray, List.set_cons_succ, List.set_cons_zero]
          refine wpAnyH_take (i := 3) (v := ?v3g) rfl (by kernel_rfl) (by kernel_rfl) (by kernel_rfl) (fun _ _ _ h => h) (Or.inl ⟨by rfl, ?hy3g⟩) (by assumption) ?rest3g
          case hy3g => (intro w hSw; (try dsimp only at hSw); go_simp <;> (try with_reducible rfl))
          simp only [Act.put, List.getElem_toArray, List.getElem_cons_succ, List.getElem_cons_zero, List.setIfInBounds_toArray, List.set_cons_succ, List.set_cons_zero]
          refine wpAnyH_take (i := 4) (v := ?v4g) rfl (by kernel_rfl) (by kernel_rfl) (by kernel_rfl) (fun _ _ _ h => h) (Or.inl ⟨by rfl, ?hy4g⟩) (by assumption) ?rest4g
          case hy4g => (intro w hSw; (try dsimp only at hSw); go_simp <;> (try with_reducible rfl))
          simp only [Act.put, List.getElem_toArray, List.getElem_cons_succ, List.getElem_cons_zero, List.setIfInBounds_toArray, List.set_cons_succ, List.set_cons_zero]
          refine wpAnyH_take (i := 5) (v := ?v5g) rfl (by kernel_rfl) (by kernel_rfl) (by kernel_rfl) (fun _ _ _ h => h) (Or.inl ⟨by rfl, ?hy5g⟩) (by assumption) ?rest5g
          case hy5g => (intro w hSw; (try dsimp only at hSw); go_simp <;> (try with_reducible rfl))
          simp only [Act.put, List.getElem_toArray, List.getElem_cons_succ, List.getElem_cons_zero, List.setIfInBounds_toArray, List.set_cons_succ, List.set_cons_zero]
          refine wpAnyH_take (i := 6) (v := ?v6g) rfl (by kernel_rfl) (by kernel_rfl) (by kernel_rfl) (fun _ _ _ h => h) (Or.inl ⟨by rfl, ?hy6g⟩) (by assumption) ?rest6g
          case hy6g => (intro w hSw; (try dsimp only at hSw); go_simp <;> (try with_reducible rfl))
          simp only [Act.put, List.getElem_toArray, List.getElem_cons_succ, List.getElem_cons_zero, List.setIfInBounds_toArray, List.set_cons_succ, List.set_cons_zero]
          refine wpAnyH_take (i := 7) (v := ?v7g) rfl (by kernel_rfl) (by kernel_rfl) (by kernel_rfl) (fun _ _ _ h => h) (Or.inl ⟨by rfl, ?hy7g⟩) (by assumption) ?rest7g
          case hy7g => (intro w hSw; (try dsimp only at hSw); go_simp <;> (try with_reducible rfl))
          simp only [Act.put, List.getElem_toArray, List.getElem_cons_succ, List.getElem_cons_zero, List.setIfInBounds_toArray, List.set_cons_succ, List.set_cons_zero]
          refine wpAnyH_take (i := 8) (v := ?v8g) rfl (by kernel_rfl) (by kernel_rfl) (by kernel_rfl) (fun _ _ _ h => h) (Or.inl ⟨by rfl, ?hy8g⟩) (by assumption) ?rest8g
          case hy8g => (intro w hSw; (try dsimp only at hSw); go_simp <;> (try with_reducible rfl))
          simp only [Act.put, List.getElem_toArray, List.getElem_cons_succ, List.getElem_cons_zero, List.setIfInBounds_toArray, List.set_cons_succ, List.set_cons_zero]
          refine wpAnyH_take (i := 9) (v := ?v9g) rfl (by kernel_rfl) (by kernel_rfl) (by kernel_rfl) (fun _ _ _ h => h) (Or.inl ⟨by rfl, ?hy9g⟩) (by assumption) ?rest9g
          case hy9g => (intro w hSw; (try dsimp only at hSw); go_simp <;> (try with_reducible rfl))
          simp only [Act.put, List.getElem_toArray, List.getElem_cons_succ, List.getElem_cons_zero, List.setIfInBounds_toArray, List.set_cons_succ, List.set_cons_zero]
          refine wpAnyH_take (i := 10) (v := ?v10g) rfl (by kernel_rfl) (by kernel_rfl) (by kernel_rfl) (fun _ _ _ h => h) (Or.inl ⟨by rfl, ?hy10g⟩) (by assumption) ?rest10g
          case hy10g => (intro w hSw; (try dsimp only at hSw); go_simp <;> (try with_reducible rfl))
          simp only [Act.put, List.getElem_toArray, List.getElem_cons_succ, List.getElem_cons_zero, List.setIfInBounds_toArray, List.set_cons_succ, List.set_cons_zero]
          refine wpAnyH_take (i := 11) (v := ?v11g) rfl (by kernel_rfl) (by kernel_rfl) (by kernel_rfl) (fun _ _ _ h => h) (Or.inl ⟨by rfl, ?hy11g⟩) (by assumption) ?rest11g
          case hy11g => (intro w hSw; (try dsimp only at hSw); go_simp <;> (try with_reducible rfl))
          simp only [Act.put, List.getElem_toArray, List.getElem_cons_succ, List.getElem_cons_zero, List.setIfInBounds_toArray, List.set_cons_succ, List.set_cons_zero]
          refine wpAnyH_take (i := 12) (v := ?v12g) rfl (by kernel_rfl) (by kernel_rfl) (by kernel_rfl) (fun _ _ _ h => h) (Or.inl ⟨by rfl, ?hy12g⟩) (by assumption) ?rest12g
          case hy12g => (intro w hSw; (try dsimp only at hSw); go_simp <;> (try with_reducible rfl))
          simp only [Act.put, List.getElem_toArray, List.getElem_cons_succ, List.getElem_cons_zero, List.setIfInBounds_toArray, List.set_cons_succ, List.set_cons_zero]
          refine wpAnyH_take (i := 13) (v := ?v13g) rfl (by kernel_rfl) (by kernel_rfl) (by kernel_rfl) (fun _ _ _ h => h) (Or.inl ⟨by rfl, ?hy13g⟩) (by assumption) ?rest13g
          case hy13g => (intro w hSw; (try dsimp only at hSw); go_simp <;> (try with_reducible rfl))
          simp only [Act.put, List.getElem_toArray, List.getElem_cons_succ, List.getElem_cons_zero, List.setIfInBounds_toArray, List.set_cons_succ, List.set_cons_zero]
          refine wpAnyH_take (i := 14) (v := ?v14g) rfl (by kernel_rfl) (by kernel_rfl) (by kernel_rfl) (fun _ _ _ h => h) (Or.inl ⟨by rfl, ?hy14g⟩) (by assumption) ?rest14g
          case hy14g => (intro w hSw; (try dsimp only at hSw); go_simp <;> (try with_reducible rfl))
          simp only [Act.put, List.getElem_toArray, List.getElem_cons_succ, List.getElem_cons_zero, List.setIfInBounds_toArray, List.set_cons_succ, List.set_cons_zero]
          refine wpAnyH_take (i := 15) (v := ?v15g) rfl (by kernel_rfl) (by kernel_rfl) (by kernel_rfl) (fun _ _ _ h => h) (Or.inl ⟨by rfl, ?hy15g⟩) (by assumption) ?rest15g
          case hy15g => (intro w hSw; (try dsimp only at hSw); go_simp <;> (try with_reducible rfl))
          simp only [Act.put, List.getElem_toArray, List.getElem_cons_succ, List.getElem_cons_zero, List.setIfInBounds_toArray, List.set_cons_succ, List.set_cons_zero]
          refine wpAnyH_ready (rs := [16]) (by kernel_rfl) (by simp) ?_
          refine AllReadyH.cons rfl (fun K hK => ?_) AllReadyH.nil
          go_simp
          refine (NatOf_new x _ (by omega)).mono ?_
          rintro e w5 ⟨y, rfl, hy, hb5⟩
          obtain ⟨ya, yl, yc, rfl⟩ := hy.1.isSlice
          have hcur := below_chain hcur hb5
          go_wp2_with fail
          refine hK.out _ _ ?_ (fun hHeld => ?_)
          · exact HKS.out _ hcur
          clear hK K
          refine wpAnyH_ready (rs := [17]) (by kernel_rfl) (by simp) ?_
          refine AllReadyH.cons rfl (fun K hK => ?_) AllReadyH.nil
          go_simp
          refine hK.out _ _ (HKS.out _ (hcur.alloc (Nat.le_trans (Nat.le_refl _) hcur.size) _)) (fun hHeld => ?_)
          clear hK K
          have hba : Below w5.heap.size w5 (w5.alloc (.cells #[.slice ya yl yc] 50)) := (Below.refl _ _).alloc (Nat.le_refl _) _
          have HBA := Hid.mk' (HBD.out.later (below_chain hcur hba))
          have hown := HBA.out.own i h1
          rw [HRE.out, lenAt_own] at hown
          have hyA := hy.1.later hba
          have hsz5 : B ≤ w5.heap.size := Nat.le_trans HBD.out.size hcur.size
          refine wpAnyH_ready (rs := [18]) (by kernel_rfl) (by simp) ?_
          refine AllReadyH.cons rfl (fun K hK => ?_) AllReadyH.nil
          refine step_append_lies _ rfl _ _ _ rfl B 50 i0 _ 1 24 Tryd.underlying48 HINF.out.1 HINF.out.2.1 HINF.out.2.2.1 HINF.out.2.2.2 rfl (by omega) _ _ _ rfl hown ⟨w5.heap.size, 0, none⟩ 1 1 [.slice ya yl yc] rfl rfl (one_new _ _ _) (by simp [Value.oneCell']) (by omega) (by unfold maxLen; omega) (by omega) (by simp; omega) _ rfl ?_
          intro g' cap' w6 hown6 hgrow6 hat6 hlt6
          have hko : ∀ q, q < B → some q ≠ (Value.slice ra rl rc).ownBlock := fun q hq e => by have := (own_ge hown e.symm).1; omega
          have hbk : ∀ q, q < B → w6.heap[q]? = (w5.alloc (.cells #[.slice ya yl yc] 50)).heap[q]? := fun q hq => hgrow6.block q (by simp; omega) (hko q hq)
          have hSA := HKS.out _ (below_chain hcur hba)
          have S6 : (fun W => W.cell? ⟨fb, 0, none⟩ = some (.slice (some ⟨g, 0, none⟩) n n) ∧ W.cell? ⟨g, i, none⟩ = some (.slice ra rl rc) ∧ W.cell? ⟨cb, co + from_, none⟩ = some (.slice (some ⟨b1, o1, none⟩) N cap1) ∧ W.cell? ⟨b1, o1 + kk, none⟩ = some (.int .i64 (x : Int))) w6 := ⟨by rw [World.cell?_of_block (a := ⟨fb, 0, none⟩) (hbk fb HF.out.lt.2.2.2)]; exact hSA.1, by rw [World.cell?_of_block (a := ⟨g, i, none⟩) (hbk g HF.out.lt.1)]; exact hSA.2.1, by rw [World.cell?_of_block (a := ⟨cb, co + from_, none⟩) (hbk cb (by omega))]; exact hSA.2.2.1, by rw [World.cell?_of_block (a := ⟨b1, o1 + kk, none⟩) (hbk b1 (by omega))]; exact hSA.2.2.2⟩
          have z1 := S6.2.1
          have z5 : w6.frozen? ⟨g, i, none⟩ = false := by
            rw [World.frozen?_of_block (a := ⟨g, i, none⟩) (hbk g HF.out.lt.1), (below_chain hcur hba).frozen (by have := HF.out.lt.1; have := HBD.out.size; show g < _; omega)]; exact y5
          refine hK.out _ _ S6 (fun hHeld => ?_)
          clear hK K
          simp only [Act.put, List.getElem_toArray, List.getElem_cons_succ, List.getElem_cons_zero, List.setIfInBounds_toArray, List.set_cons_succ, List.set_cons_zero]
          refine wpAnyH_take (i := 19) (v := ?v19g) rfl (by kernel_rfl) (by kernel_rfl) (by kernel_rfl) (fun _ _ _ h => h) (Or.inl ⟨by rfl, ?hy19g⟩) (by assumption) ?rest19g
          case hy19g => (intro w hSw; (try dsimp only at hSw); go_simp <;> (try with_reducible rfl))
          simp only [Act.put, List.getElem_toArray, List.getElem_cons_succ, List.getElem_cons_zero, List.setIfInBounds_toArray, List.set_cons_succ, List.set_cons_zero]
          refine wpAnyH_done (by kernel_rfl) ?_ _
          refine ahead_last rfl (fun K hK => ?_)
          go_simp
          refine hK _ _ ?_
          clear hK K
          go_wp2_with fail
          have hpush := HBA.out.push HF.out (i := i) (v := x) (y := .slice ya yl yc) (g' := g') (cap' := cap') (w3 := w6) h1 hyA (fun r' b hr' hb => hy.off (own_ge (HBD.out.own r' hr') hb).2) (by rw [HRE.out]; exact hgrow6) (by rw [lenAt_own]; exact hown6) (by rw [HRE.out]; exact hat6)
          rw [lenAt_own] at hpush
          refine ⟨⟨k + 1, _, _, h2, by go_num, hpush.congr (fun r => by rw [lenAt_next, lenAt_own]) (fun r c _ _ => ?_) (fun r _ => rfl)⟩, by simp [intOf]; omega⟩
          by_cases hrc : r = i ∧ c = k
          · rw [if_pos hrc, hrc.1, hrc.2]; exact HXV.out
          · rw [if_neg hrc]
        · obtain rfl : n = k := by omega
          obtain ⟨b1, o1, cap1, y2w, hrow⟩ := HC.out w (Below.refl _ _) from_ hfN
          have hcb : cb < w.heap.size := cell_lt y2w
          have y2 : wr.cell? ⟨cb, co + from_, none⟩ = some (.slice (some ⟨b1, o1, none⟩) N cap1) := by rw [(below_chain HB0.out HBD.out.below).cell hcb]; exact y2w
          have HRW : Hid (∀ W, Below wr.heap.size wr W → RowAt W b1 o1 N (zs from_)) := fun W hb => RowAt.later (RowAt.later hrow (below_chain HB0.out HBD.out.below)) hb
          have hok := HZ.out from_ hfN
          have hpt := hok.part (Nat.le_refl N)
          obtain ⟨x, hx⟩ : ∃ x : Nat, sumN (zs from_) N = (x : Int) := ⟨(sumN (zs from_) N).toNat, by omega⟩
          have hx4 : x ≤ 4096 := by omega
          have HXV : Hid (V n i = x) := by show _ = _; rw [HVD.out]; unfold fold0; rw [if_neg (by omega), if_pos rfl, ← HFR.out, hx]; simp
          have hxw : IntKind.u64.wrap (x : Int) = (x : Int) := by rw [IntKind.wrap_u64]; omega
          have HTO : Hid (∀ W, Below wr.heap.size wr W → Calls Tryd.prog 24 #[.slice (some ⟨b1, o1, none⟩) N cap1] W fun e w' => e = .returned (.int .i64 (x : Int)) ∧ w' = W) := fun W hb => by
            have := Total_some b1 o1 cap1 N (zs from_) W (HRW.out W hb) (fun k hk => by have := hok.part hk; omega) (fun k hk => by have := hok.lt hk; omega) (by omega)
            rw [hx] at this; exact this
          have y0 := HBD.out.c1
          have y1 := HBD.out.times.row i h1
          have y5 := HBD.out.times.fz i h1
          have HKS : Hid (∀ W, Below wr.heap.size wr W → (W.cell? ⟨fb, 1, none⟩ = some (.slice (some ⟨gt, 0, none⟩) n n) ∧ W.cell? ⟨cb, co + from_, none⟩ = some (.slice (some ⟨b1, o1, none⟩) N cap1))) := fun W hb => ⟨by rw [hb.cell (cell_lt y0)]; exact y0, by rw [hb.cell (cell_lt y2)]; exact y2⟩
          have HY1 := Hid.mk' (And.intro y1 y5)
          clear hrow hok hpt hx y2w y1 y5
          go_wp2_with fail
          have hcur : Below wr.heap.size wr wr.drew := (Below.refl _ _).drew
          clear y0 y2
          refine region_but_last (n := 11) (S := fun W => W.cell? ⟨fb, 1, none⟩ = some (.slice (some ⟨gt, 0, none⟩) n n) ∧ W.cell? ⟨cb, co + from_, none⟩ = some (.slice (some ⟨b1, o1, none⟩) N cap1)) (by kernel_rfl) (by kernel_rfl) (by kernel_rfl) (HKS.out _ hcur) (fun hHeld => ?_)
          refine wpAnyH_take (i := 0) (v := ?v0h) rfl (by kernel_rfl) (by kernel_rfl) (by kernel_rfl) (fun _ _ _ h => h) (Or.inl ⟨by rfl, ?hy0h⟩) (by assumption) ?rest0h
          case hy0h => (intro w hSw; (try dsimp only at hSw); go_simp <;> (try with_reducible rfl))
          simp only [Act.put, List.getElem_toArray, List.getElem_cons_zero, List.setIfInBounds_toArray, List.set_cons_succ, List.set_cons_zero]
          refine wpAnyH_take (i := 1) (v := ?v1h) rfl (by kernel_rfl) (by kernel_rfl) (by kernel_rfl) (fun _ _ _ h => h) (Or.inl ⟨by rfl, ?hy1h⟩) (by assumption) ?rest1h
          case hy1h => (intro w hSw; (try dsimp only at hSw); go_simp <;> (try with_reducible rfl))
          simp only [Act.put, List.getElem_toArray, List.getElem_cons_succ, List.getElem_cons_zero, List.setIfInBounds_toArray, List.set_cons_succ, List.set_cons_zero]
          refine wpAnyH_take (i := 2) (v := ?v2h) rfl (by kernel_rfl) (by kernel_rfl) (by kernel_rfl) (fun _ _ _ h => h) (Or.inl ⟨by rfl, ?hy2h⟩) (by assumption) ?rest2h
          case hy2h => (intro w hSw; (try dsimp only at hSw); go_simp <;> (try with_reducible rfl))
          simp only [Act.put, List.getElem_toArray, List.getElem_cons_succ, List.getElem_cons_zero, List.setIfInBounds_toArray, List.set_cons_succ, List.set_cons_zero]
          refine wpAnyH_take (i := 3) (v := ?v3h) rfl (by kernel_rfl) (by kernel_rfl) (by kernel_rfl) (fun _ _ _ h => h) (Or.inl ⟨by rfl, ?hy3h⟩) (by assumption) ?rest3h
          case hy3h => (intro w hSw; (try dsimp only at hSw); go_simp <;> (try with_reducible rfl))
          simp only [Act.put, List.getElem_toArray, List.getElem_cons_succ, List.getElem_cons_zero, List.setIfInBounds_toArray, List.set_cons_succ, List.set_cons_zero]
          refine wpAnyH_take (i := 4) (v := ?v4h) rfl (by kernel_rfl) (by kernel_rfl) (by kernel_rfl) (fun _ _ _ h => h) (Or.inl ⟨by rfl, ?hy4h⟩) (by assumption) ?rest4h
          case hy4h => (intro w hSw; (try dsimp only at hSw); go_simp <;> (try with_reducible rfl))
          simp only [Act.put, List.getElem_toArray, List.getElem_cons_succ, List.getElem_cons_zero, List.setIfInBounds_toArray, List.set_cons_succ, List.set_cons_zero]
          refine wpAnyH_take (i := 5) (v := ?v5h) rfl (by kernel_rfl) (by kernel_rfl) (by kernel_rfl) (fun _ _ _ h => h) (Or.inl ⟨by rfl, ?hy5h⟩) (by assumption) ?rest5h
          case hy5h => (intro w hSw; (try dsimp only at hSw); go_simp <;> (try with_reducible rfl))
          simp only [Act.put, List.getElem_toArray, List.getElem_cons_succ, List.getElem_cons_zero, List.setIfInBounds_toArray, List.set_cons_succ, List.set_cons_zero]
          refine wpAnyH_take (i := 6) (v := ?v6h) rfl (by kernel_rfl) (by kernel_rfl) (by kernel_rfl) (fun _ _ _ h => h) (Or.inl ⟨by rfl, ?hy6h⟩) (by assumption) ?rest6h
          case hy6h => (intro w hSw; (try dsimp only at hSw); go_simp <;> (try with_reducible rfl))
          simp only [Act.put, List.getElem_toArray, List.getElem_cons_succ, List.getElem_cons_zero, List.setIfInBounds_toArray, List.set_cons_succ, List.set_cons_zero]
          refine wpAnyH_ready (rs := [7]) (by kernel_rfl) (by simp) ?_
          refine AllReadyH.cons rfl (fun K hK => ?_) AllReadyH.nil
          go_simp
          refine (HTO.out _ hcur).mono ?_
          rintro e w4 ⟨rfl, hw4⟩
          rw [hw4]
          clear hw4
          go_wp2_with fail
          refine hK.out _ _ ?_ (fun hHeld => ?_)
          · exact HKS.out _ hcur
          clear hK K
          refine wpAnyH_take (i := 8) (v := ?v8h) rfl (by kernel_rfl) (by kernel_rfl) (by kernel_rfl) (fun _ _ _ h => h) (Or.inl ⟨by rfl, ?hy8h⟩) (by assumption) ?rest8h
          case hy8h => (intro w hSw; (try dsimp only at hSw); go_simp <;> (try with_reducible rfl))
          simp only [Act.put, List.getElem_toArray, List.getElem_cons_succ, List.getElem_cons_zero, List.setIfInBounds_toArray, List.set_cons_succ, List.set_cons_zero]
          refine wpAnyH_ready (rs := [9]) (by kernel_rfl) (by simp) ?_
          refine AllReadyH.cons rfl (fun K hK => ?_) AllReadyH.nil
          go_simp
          refine (NatOf_new x _ (by omega)).mono ?_
          rintro e w5 ⟨y, rfl, hy, hb5⟩
          obtain ⟨ya, yl, yc, rfl⟩ := hy.1.isSlice
          have hcur := below_chain hcur hb5
          go_wp2_with fail
          refine hK.out _ _ ?_ (fun hHeld => ?_)
          · exact HKS.out _ hcur
          clear hK K
          refine wpAnyH_take (i := 10) (v := ?v10h) rfl (by kernel_rfl) (by kernel_rfl) (by kernel_rfl) (fun _ _ _ h => h) (Or.inl ⟨by rfl, ?hy10h⟩) (by assumption) ?rest10h
          case hy10h => (intro w hSw; (try dsimp only at hSw); go_simp <;> (try with_reducible rfl))
          simp only [Act.put, List.getElem_toArray, List.getElem_cons_succ, List.getElem_cons_zero, List.setIfInBounds_toArray, List.set_cons_succ, List.set_cons_zero]
          refine wpAnyH_done (by kernel_rfl) ?_ _
          have z1 : w5.cell? ⟨gt, i, none⟩ = some (tf i) := by rw [hcur.cell (cell_lt HY1.out.1)]; exact HY1.out.1
          have z5 : w5.frozen? ⟨gt, i, none⟩ = false := by rw [hcur.frozen (cell_lt HY1.out.1)]; exact HY1.out.2
          refine ahead_last rfl (fun K hK => ?_)
          go_simp
          refine hK _ _ ?_
          clear hK K
          go_wp2_with fail
          have htm := (HBD.out.later hcur).time HF.out (i := i) (v := x) h1 hy.1 (fun r' b hr' hb => hy.off (own_ge (HBD.out.own r' hr') hb).2)
          refine ⟨⟨i + 1, _, _, _, h1, by go_num, htm.congr (fun r => lenAt_row n i r) (fun r c _ _ => rfl) (fun r _ => ?_)⟩, by simp [intOf]; omega⟩
          by_cases hri : r = i
          · rw [if_pos hri, hri, if_pos (by omega)]; exact HXV.out
          · rw [if_neg hri]
            by_cases hlt : r < i
            · rw [if_pos hlt, if_pos (by omega)]
            · rw [if_neg hlt, if_neg (by omega)]
    · obtain rfl : n = i := by omega
      obtain ⟨rb, cp, f2, hrn, hro, hfr, hfold⟩ := HBD.out.fold HF.out hn0 (fun k hk => by rw [HVD.out]; unfold fold0; rw [if_neg (by omega), if_neg (by omega)])
      have HFO := Hid.mk' hfold
      have HFR2 := Hid.mk' hfr
      have HCB : Hid (wr.cell? ⟨fb, 0, none⟩ = some (.slice (some ⟨g, 0, none⟩) n n) ∧ wr.cell? ⟨fb, 1, none⟩ = some (.slice (some ⟨rb n, 0, none⟩) n n) ∧ wr.cell? ⟨fb, 2, none⟩ = some (.slice (some ⟨rb (n + 1), 0, none⟩) n n)) := ⟨HBD.out.c0, by rw [hrn]; exact HBD.out.c1, by rw [hro]; exact HBD.out.c2⟩
      have HVL : Hid (∀ c s, s + c ≤ n → c ≤ 7 → ∀ i k, i < n + 2 → k < n → downTo n V c s i k < 18446744073709551616 ^ 40) := fun c s h1 h2 i k hi hk => Nat.lt_trans (downTo_lt hn (fun i k hi hk => by rw [HVD.out]; exact fold0_lt HLN.out HZ.out i k hk) c s h1 i k hi hk) (bnd_room h2)
      clear HBD hfold hfr hrn hro
      go_wp2_with fail
      obtain ⟨Wr, hWr⟩ : ∃ Wr, Wr = wr := ⟨_, rfl⟩
      rw [← hWr] at HFO HCB ⊢
      clear hWr
      go_loopw [10] (fun t wr => ∃ (s c : Nat) (f' : Nat → Nat → Value), s + c + 1 = n ∧ t = .int .i64 s ∧ Hid (FoldAt W0 wr n g rb cp f' (downTo n V c (s + 1))) ∧ Hid (wr.cell? ⟨fb, 0, none⟩ = some (.slice (some ⟨g, 0, none⟩) n n) ∧ wr.cell? ⟨fb, 1, none⟩ = some (.slice (some ⟨rb n, 0, none⟩) n n) ∧ wr.cell? ⟨fb, 2, none⟩ = some (.slice (some ⟨rb (n + 1), 0, none⟩) n n))) (fun t _ => (intOf t).toNat)
      case atStart => exact ⟨n - 1, 0, f2, by omega, by congr 1; omega, HFO, HCB⟩
      case round =>
        clear HFO HCB
        obtain ⟨s, c, f3, hsc, rfl, HFO, HCB⟩ := hrel
        have q0 := HCB.out.1
        have q1 := HCB.out.2.1
        have q2 := HCB.out.2.2
        rcases Nat.eq_zero_or_pos s with hs0 | hs0
        · subst hs0
          have hrc := HRC.out.later HFO.out.below
          have r0 := hrc.row 0 (by decide)
          have r1 := hrc.row 1 (by decide)
          have r2 := hrc.row 2 (by decide)
          have p0 := hrc.fz 0 (by decide)
          have p1 := hrc.fz 1 (by decide)
          have p2 := hrc.fz 2 (by decide)
          obtain ⟨hq1, hq2, hq3⟩ := put_three (.slice (some ⟨g, 0, none⟩) n n) (.slice (some ⟨rb n, 0, none⟩) n n) (.slice (some ⟨rb (n + 1), 0, none⟩) n n) r0 r1 r2
          have HQ := Hid.mk' (And.intro hq1 (And.intro hq2 hq3))
          have hlt0 : w.heap.size < W0.heap.size := cell_lt (HRC.out.row 0 (by decide))
          have HFIN : Hid (FoldAt w (((wr.setCell ⟨w.heap.size, 0, none⟩ (.slice (some ⟨g, 0, none⟩) n n)).setCell ⟨w.heap.size, 1, none⟩ (.slice (some ⟨rb n, 0, none⟩) n n)).setCell ⟨w.heap.size, 2, none⟩ (.slice (some ⟨rb (n + 1), 0, none⟩) n n)) n g rb cp f3 (downTo n (fold0 l zs N n) (n - 1) 1)) := by
            have hb := HFO.out.rebase HB0.out
            rw [HVD.out, show c = n - 1 by omega] at hb
            have hgp : g ≠ w.heap.size := by have := HFO.out.hg; omega
            have hrp : ∀ i, i < n + 2 → rb i ≠ w.heap.size := fun i hi => by have := (HFO.out.rge i hi).1; omega
            exact ((hb.aside (Nat.le_refl _) hgp hrp r0 _).aside (Nat.le_refl _) hgp hrp hq1.1 _).aside (Nat.le_refl _) hgp hrp hq1.2 _
          clear hrc hq1 hq2 hq3
          go_wp2_with fail
          exact bodyPost_ret (v := .agg #[.slice (some ⟨g, 0, none⟩) n n, .slice (some ⟨rb n, 0, none⟩) n n, .slice (some ⟨rb (n + 1), 0, none⟩) n n]) (by simp [results, Tryd.results21, go_sem, HQ.out.2.1.1, HQ.out.2.1.2, HQ.out.2.2]) rfl ⟨g, rb, cp, f3, rfl, HFIN.out⟩
        · have hsI : (0 : Int) < (s : Int) := by omega
          have htk := takeOut_any W0 wr n s g rb cp f3 (downTo n V c (s + 1)) HFO.out (by omega) hn (HVL.out c (s + 1) (by omega) (by omega))
          go_wp2_with fail
          refine htk.mono ?_
          clear htk
          rintro e w7 ⟨rfl, ⟨f4, hf4⟩, hkp⟩
          have HF4 := Hid.mk' hf4
          have HC4 : Hid (w7.cell? ⟨fb, 0, none⟩ = some (.slice (some ⟨g, 0, none⟩) n n) ∧ w7.cell? ⟨fb, 1, none⟩ = some (.slice (some ⟨rb n, 0, none⟩) n n) ∧ w7.cell? ⟨fb, 2, none⟩ = some (.slice (some ⟨rb (n + 1), 0, none⟩) n n)) := ⟨hkp.cell q0 HFR2.out, hkp.cell q1 HFR2.out, hkp.cell q2 HFR2.out⟩
          clear hf4 hkp q0 q1 q2
          go_wp2_with fail
          refine ⟨⟨s - 1, c + 1, f4, by omega, by congr 1; omega, ?_, HC4⟩, by simp [intOf]; omega⟩
          rw [show s - 1 + 1 = s by omega]
          exact HF4
end Go.Proofs.YtlmehmbipbkeiaaDoor
