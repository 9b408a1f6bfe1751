/- fold.Of: what it comes to. -/
import Derived.Test.YtlnhpkmcinohdaaDoorPackA
import Derived.Deep.DeepCutAuto
import Derived.Test.YtlnhpkmcinohdaaDoorWlVal
import Derived.Test.YtlnhpkmcinohdaaDoorWlCon
import Derived.Test.YtlnhpkmcinohdaaDoorFromW
namespace Go.Proofs.YtlnhpkmcinohdaaDoor
open Go.RowKit

/-- Rows that can be folded. -/
structure OkF (z : Nat → Int) (N : Nat) : Prop where
  lt : ∀ {k}, k < N → 0 ≤ z k ∧ z k ≤ 20000
  part : ∀ {k}, k ≤ N → 0 ≤ sumN z k ∧ sumN z k ≤ 20000
theorem Tryd.infoNats : (Tryd.prog.info? 86).map (fun i => (i.zero, i.size, i.bytes)) = some (some (.slice none 0 0), 1, 24) := by kernel_rfl
set_option maxRecDepth 100000 in
theorem Total_some (b o cap n : Nat) (z : Nat → Int) (w : World) (h : RowAt w b o n z) (hz : ∀ k, k ≤ n → -1000000 ≤ sumN z k ∧ sumN z k ≤ 1000000) (hzi : ∀ i, i < n → -1000000 ≤ z i ∧ z i ≤ 1000000) (hn : n ≤ 1000000) :
    Calls Tryd.prog 69 #[.slice (some ⟨b, o, none⟩) n cap] w fun e w' => e = .returned (.int .i64 (sumN z n)) ∧ w' = w := by
  have HR := Hid.mk' h
  have HZ := Hid.mk' hz
  have HZI := Hid.mk' hzi
  clear h hz hzi
  go_enter Tryd.func69, Tryd.ntmps69
  go_wp2_with fail
  go_loopw [3, 8] (fun s i wr => ∃ k : Nat, k ≤ n ∧ s = .int .i64 (sumN z k) ∧ i = .int .i64 k ∧ wr = w) (fun _ i _ => n - (intOf i).toNat)
  case atStart => exact ⟨0, Nat.zero_le _, rfl, rfl, rfl⟩
  case round =>
    obtain ⟨k, hk, rfl, rfl, rfl⟩ := hrel
    rcases Nat.lt_or_ge k n with h1 | h1
    · have hc := HR.out k h1
      have hs1 := HZ.out k hk
      have hs2 := HZ.out (k + 1) h1
      have hs3 := HZI.out k h1
      have HE : Hid (sumN z (k + 1) = sumN z k + z k) := rfl
      have hkn : (k : Int) < (n : Int) := by omega
      obtain ⟨x, hx⟩ : ∃ x, x = z k := ⟨_, rfl⟩
      rw [← hx] at hc hs3 HE
      obtain ⟨s, hs⟩ : ∃ s, s = sumN z k := ⟨_, rfl⟩
      rw [← hs] at hs1 HE ⊢
      clear hx hs
      go_wp2_with fail
      exact ⟨⟨k + 1, h1, by rw [HE.out], by go_num, trivial⟩, by simp [intOf]; omega⟩
    · obtain rfl : k = n := by omega
      go_wp2_with fail
      go_ret
      exact ⟨rfl, rfl⟩

theorem lenAt_next (n i k r : Nat) : lenAt n i (k + 1) r = if r = i then lenAt n i k i + 1 else lenAt n i k r := by
  unfold lenAt
  by_cases h : r = i
  · subst h; simp
  · simp [h]
theorem lenAt_own (n i k : Nat) : lenAt n i k i = k := by unfold lenAt; simp
theorem lenAt_row (n i r : Nat) : lenAt n (i + 1) 0 r = lenAt n i n r := by
  unfold lenAt
  by_cases h : r < i
  · rw [if_pos h, if_pos (by omega)]
  · rw [if_neg h]
    by_cases h2 : r = i
    · rw [if_pos h2, if_pos (by omega)]
    · rw [if_neg h2, if_neg (by omega)]; split <;> rfl
theorem Build.congr {w0 wr : World} {B n g gt go fb cl : Nat} {X : Nat → Value} {ls : Nat → Int} {len len' : Nat → Nat} {rv : Nat → Value} {f : Nat → Nat → Value} {tf : Nat → Value} {V V' : Nat → Nat → Nat} {T T' : Nat → Nat} (h : Build w0 wr B n g gt go fb cl X ls len rv f tf V T) (hl : ∀ r, len' r = len r) (hV : ∀ r k, r < n → k < len r → V' r k = V r k) (hT : ∀ r, r < n → T' r = T r) : Build w0 wr B n g gt go fb cl X ls len' rv f tf V' T' := by
  obtain rfl : len' = len := funext hl
  exact ⟨h.below, h.size, h.outer, h.own, h.sep, fun r k hr hk => by rw [hV r k hr hk]; exact h.nats r k hr hk, h.off, h.times, fun r hr => by rw [hT r hr]; exact h.tnats r hr, h.toff, h.outs, h.cs, h.st⟩
/-- The chain of some states, before any is taken out. -/
def fold0 (l : List Nat) (zs : Nat → Nat → Int) (N n i k : Nat) : Nat := if i < n then (zs (l.getD i 0) (l.getD k 0)).toNat else if i = n then (sumN (zs (l.getD k 0)) N).toNat else 0
/-- All from s on are taken out. -/
def downTo (n : Nat) (V : Nat → Nat → Nat) : Nat → Nat → Nat → Nat → Nat
  | 0, _ => V
  | c + 1, s => takeV n s (downTo n V c (s + 1))

theorem FoldAt.rebase {w0 W0 wr : World} {n g : Nat} {rb cp : Nat → Nat} {f : Nat → Nat → Value} {V : Nat → Nat → Nat} (h : FoldAt W0 wr n g rb cp f V) (hb : Below w0.heap.size w0 W0) : FoldAt w0 wr n g rb cp f V :=
  ⟨below_chain hb h.below, Nat.le_trans hb.size h.hg, h.outer, fun i hi => ⟨Nat.le_trans hb.size (h.rge i hi).1, (h.rge i hi).2⟩, h.inj, h.rows, h.nats⟩
theorem FoldAt.aside {w wr : World} {n g p j : Nat} {rb cp : Nat → Nat} {f : Nat → Nat → Value} {V : Nat → Nat → Nat} {ad : Option Addr} {l c : Nat} (h : FoldAt w wr n g rb cp f V) (hp : w.heap.size ≤ p) (hg : g ≠ p) (hr : ∀ i, i < n + 2 → rb i ≠ p) (hx : wr.cell? ⟨p, j, none⟩ = some (.slice ad l c)) (y : Value) : FoldAt w (wr.setCell ⟨p, j, none⟩ y) n g rb cp f V :=
  ⟨h.below.setCell hp _, h.hg, fun i hi => by rw [cell_put _ hx, if_neg (fun e => hg (congrArg Addr.block e))]; exact h.outer i hi, h.rge, h.inj, fun i hi => (h.rows i hi).put hx (hr i hi) y, fun i k hi hk => (h.nats i k hi hk).putS hx⟩
theorem NatAt.putI {W : World} {v y : Value} {n : Nat} {p : Addr} (h : NatAt W v n) (hc : W.cell? p = some (.int .i64 0)) : NatAt (W.setCell p y) v n := by
  obtain ⟨l, h1, h2, h3, h4⟩ := h
  refine ⟨l, h1, h2, h3, ?_⟩
  rcases h4 with h | ⟨b, o, cap, h1, h2, h3, h4⟩
  · exact Or.inl h
  · refine Or.inr ⟨b, o, cap, h1, h2, h3, fun i hi => ?_⟩
    rw [cell_put y hc, if_neg (fun e => ?_)]
    · exact h4 i hi
    · have := h4 i hi
      rw [e, hc] at this
      simp at this
theorem NatAt.put5 {W : World} {v : Value} {n b : Nat} {X : Nat → Value} (h : NatAt W v n) (hx : RowIs W b 5 bx0) : NatAt (put5 W b X) v n := by
  obtain ⟨h0, h1, h2, h3, h4⟩ := put5_steps (X := X) hx
  exact ((((h.putS h0).putI h1).putS h2).putS h3).putS h4
theorem FoldAt.put5 {w wr : World} {n g p : Nat} {X : Nat → Value} {rb cp : Nat → Nat} {f : Nat → Nat → Value} {V : Nat → Nat → Nat} (h : FoldAt w wr n g rb cp f V) (hp : w.heap.size ≤ p) (hg : g ≠ p) (hr : ∀ i, i < n + 2 → rb i ≠ p) (hx : RowIs wr p 5 bx0) : FoldAt w (put5 wr p X) n g rb cp f V :=
  ⟨put5_below h.below hp, h.hg, fun i hi => by rw [put5_other hg]; exact h.outer i hi, h.rge, h.inj, fun i hi => (h.rows i hi).put5 (hr i hi), fun i k hi hk => (h.nats i k hi hk).put5 hx⟩
theorem Build.fold {w0 wr : World} {B n g gt go fb cl : Nat} {X : Nat → Value} {ls : Nat → Int} {rv : Nat → Value} {f : Nat → Nat → Value} {tf : Nat → Value} {V : Nat → Nat → Nat} (h : Build w0 wr B n g gt go fb cl X ls (lenAt n n 0) rv f tf V (fun r => if r < n then V n r else 0)) (hF : Fixed w0 B g gt go fb cl) (hn0 : 0 < n) (hV : ∀ k, k < n → V (n + 1) k = 0) :
    ∃ rb cp f', rb n = gt ∧ rb (n + 1) = go ∧ (∀ i, i < n + 2 → fb ≠ rb i ∧ cl ≠ rb i) ∧ FoldAt w0 wr n g rb cp f' V := by
  have hlen : ∀ r, r < n → lenAt n n 0 r = n := fun r hr => by unfold lenAt; rw [if_pos hr]
  have hsl : ∀ r, r < n → ∃ q cap, rv r = .slice (some ⟨q, 0, none⟩) n cap ∧ B ≤ q ∧ q < wr.heap.size := fun r hr => by
    have ho := h.own r hr
    rw [hlen r hr] at ho
    rcases ho.2 with ⟨_, h0⟩ | ⟨q, cap, cur, hv, hq, hh, _⟩
    · omega
    · exact ⟨q, cap, hv, hq, heap_lt hh⟩
  obtain ⟨n1, n2, n3, n4, n5, n6⟩ := hF.ne
  have hob : ∀ r, r < n → ∃ q cap, rv r = .slice (some ⟨q, 0, none⟩) n cap ∧ B ≤ q ∧ (rv r).ownBlock = some q := fun r hr => by
    obtain ⟨q, cap, e, h1, _⟩ := hsl r hr
    exact ⟨q, cap, e, h1, by rw [e]; rfl⟩
  let rb : Nat → Nat := fun r => if r < n then ((rv r).ownBlock).getD 0 else if r = n then gt else go
  let cp : Nat → Nat := fun r => match rv r with | .slice _ _ c => c | _ => 0
  have hrb : ∀ r q, r < n → (rv r).ownBlock = some q → rb r = q := fun r q hr hq => by show (if r < n then _ else _) = q; rw [if_pos hr, hq]; rfl
  have hrn : rb n = gt := by show (if n < n then _ else if n = n then gt else go) = gt; rw [if_neg (by omega), if_pos rfl]
  have hro : rb (n + 1) = go := by show (if n + 1 < n then _ else if n + 1 = n then gt else go) = go; rw [if_neg (by omega), if_neg (by omega)]
  have hcase : ∀ i, i < n + 2 → i < n ∨ i = n ∨ i = n + 1 := fun i hi => by omega
  refine ⟨rb, cp, fun i k => if i < n then f i k else if i = n then tf k else .slice none 0 0, hrn, hro, fun i hi => ?_, ⟨h.below, hF.ge.1, fun i hi => ?_, fun i hi => ?_, fun i j hi hj e => ?_, fun i hi => ?_, fun i k hi hk => ?_⟩⟩
  · rcases hcase i hi with h1 | rfl | rfl
    · obtain ⟨q, cap, e, hq, hb⟩ := hob i h1
      rw [hrb i q h1 hb]; have := hF.lt.2.2.2; have := hF.clp.2.1; exact ⟨by omega, by omega⟩
    · rw [hrn]; exact ⟨Ne.symm n5, hF.clp.2.2.2.1⟩
    · rw [hro]; exact ⟨Ne.symm n6, hF.clp.2.2.2.2.1⟩
  · obtain ⟨q, cap, e, hq, hb⟩ := hob i hi
    rw [hrb i q hi hb, h.outer.row i hi, e]
    show _ = some (Value.slice _ n (match rv i with | .slice _ _ c => c | _ => 0))
    rw [e]
  · rcases hcase i hi with h1 | rfl | rfl
    · obtain ⟨q, cap, e, hq, hb⟩ := hob i h1
      rw [hrb i q h1 hb]; have := hF.lt.1; have := hF.ge.1; exact ⟨by omega, by omega⟩
    · rw [hrn]; exact ⟨hF.ge.2.1, Ne.symm n1⟩
    · rw [hro]; exact ⟨hF.ge.2.2.1, Ne.symm n2⟩
  · rcases hcase i hi with h1 | rfl | rfl
    · obtain ⟨q, cap, e1, hq, hb⟩ := hob i h1
      rw [hrb i q h1 hb] at e
      rcases hcase j hj with h2 | rfl | rfl
      · obtain ⟨q', cap', e2, hq', hb'⟩ := hob j h2
        rw [hrb j q' h2 hb'] at e
        rcases Nat.lt_trichotomy i j with h3 | h3 | h3
        · exact absurd (by rw [hb', ← e]) (h.sep i j q h1 h2 (by omega) hb)
        · exact h3
        · exact absurd (by rw [hb, e]) (h.sep j i q' h2 h1 (by omega) hb')
      · rw [hrn] at e; have := hF.lt.2.1; omega
      · rw [hro] at e; have := hF.lt.2.2.1; omega
    · rw [hrn] at e
      rcases hcase j hj with h2 | rfl | rfl
      · obtain ⟨q', cap', e2, hq', hb'⟩ := hob j h2
        rw [hrb j q' h2 hb'] at e; have := hF.lt.2.1; omega
      · rfl
      · rw [hro] at e; exact absurd e n4
    · rw [hro] at e
      rcases hcase j hj with h2 | rfl | rfl
      · obtain ⟨q', cap', e2, hq', hb'⟩ := hob j h2
        rw [hrb j q' h2 hb'] at e; have := hF.lt.2.2.1; omega
      · rw [hrn] at e; exact absurd e.symm n4
      · rfl
  · rcases hcase i hi with h1 | rfl | rfl
    · obtain ⟨q, cap, e, hq, hb⟩ := hob i h1
      rw [hrb i q h1 hb]
      have ho := h.own i h1
      rw [hlen i h1, e] at ho
      obtain ⟨_, _, hc⟩ := ownsRow_cells ho
      exact ⟨fun k hk => by show _ = some (if i < n then _ else _); rw [if_pos h1]; exact (hc k hk).1, fun k hk => (hc k hk).2⟩
    · rw [hrn]; exact ⟨fun k hk => by show _ = some (if i < i then _ else if i = i then tf k else _); rw [if_neg (by omega), if_pos rfl]; exact h.times.row k hk, h.times.fz⟩
    · rw [hro]; exact ⟨fun k hk => by show _ = some (if n + 1 < n then _ else if n + 1 = n then tf k else _); rw [if_neg (by omega), if_neg (by omega)]; exact h.outs.row k hk, h.outs.fz⟩
  · rcases hcase i hi with h1 | rfl | rfl
    · show NatAt wr (if i < n then _ else _) _; rw [if_pos h1]; exact h.nats i k h1 (by rw [hlen i h1]; exact hk)
    · show NatAt wr (if i < i then _ else if i = i then tf k else _) _; rw [if_neg (by omega), if_pos rfl]
      have := h.tnats k hk
      rw [if_pos hk] at this; exact this
    · show NatAt wr (if n + 1 < n then _ else if n + 1 = n then tf k else _) _; rw [if_neg (by omega), if_neg (by omega), hV k hk]; exact natAt_none _
/-- How great the numbers grow. -/
def bnd : Nat → Nat
  | 0 => 20001
  | c + 1 => 16 * bnd c * bnd c
theorem bnd_pos : ∀ c, 0 < bnd c
  | 0 => by decide
  | c + 1 => Nat.mul_pos (Nat.mul_pos (by decide) (bnd_pos c)) (bnd_pos c)
theorem takeV_lt {n s b : Nat} {V : Nat → Nat → Nat} (hs : s < n) (hn : n ≤ 8) (hV : ∀ i k, i < n + 2 → k < n → V i k < b) (i k : Nat) (hi : i < n + 2) (hk : k < n) : takeV n s V i k < 16 * b * b := by
  have hb : 0 < b := by have := hV i k hi hk; omega
  have hout : sumTo (V s) s ≤ 8 * b := by
    have h1 := sumTo_le (z := V s) (M := b) (n := s) (fun i hi => Nat.le_of_lt (hV s i (by omega) (by omega)))
    have h2 : s * b ≤ 8 * b := Nat.mul_le_mul_right _ (by omega)
    omega
  have hbb : b ≤ b * b := Nat.le_mul_of_pos_left b hb
  have e16 : 16 * b * b = 16 * (b * b) := Nat.mul_assoc _ _ _
  have key : ∀ x y z : Nat, x < b → y < b → z < b → x * sumTo (V s) s + y * z < 16 * b * b := fun x y z hx hy hz => by
    have h1 : x * sumTo (V s) s ≤ b * (8 * b) := Nat.mul_le_mul (Nat.le_of_lt hx) hout
    have h2 : y * z ≤ b * b := Nat.mul_le_mul (Nat.le_of_lt hy) (Nat.le_of_lt hz)
    have e8 : b * (8 * b) = 8 * (b * b) := by rw [Nat.mul_left_comm]
    omega
  unfold takeV takeTo
  split
  · omega
  · split
    · rename_i h1 h2
      exact key _ _ _ (hV i k hi hk) (hV i s hi hs) (hV s k (by omega) hk)
    · split
      · rename_i h3
        exact key _ _ _ (hV n k (by omega) hk) (hV k s (by omega) hs) (hV n s (by omega) hs)
      · have := hV i k hi hk; omega
theorem downTo_lt {n : Nat} {V : Nat → Nat → Nat} (hn : n ≤ 8) (hV : ∀ i k, i < n + 2 → k < n → V i k < 20001) : ∀ c s, s + c ≤ n → ∀ i k, i < n + 2 → k < n → downTo n V c s i k < bnd c
  | 0, _, _, i, k, hi, hk => hV i k hi hk
  | c + 1, s, hs, i, k, hi, hk => takeV_lt (by omega) hn (downTo_lt hn hV c (s + 1) (by omega)) i k hi hk
theorem bnd_mono {c d : Nat} (h : c ≤ d) : bnd c ≤ bnd d := by
  induction d with
  | zero => obtain rfl : c = 0 := by omega
            exact Nat.le_refl _
  | succ d ih =>
    rcases Nat.lt_or_ge c (d + 1) with h1 | h1
    · have h2 := ih (by omega)
      have h3 : bnd d ≤ bnd (d + 1) := by
        show bnd d ≤ 16 * bnd d * bnd d
        exact Nat.le_mul_of_pos_left _ (Nat.mul_pos (by decide) (bnd_pos d))
      omega
    · obtain rfl : c = d + 1 := by omega
      exact Nat.le_refl _
theorem bnd_room {c : Nat} (h : c ≤ 7) : bnd c < 18446744073709551616 ^ 40 := Nat.lt_of_le_of_lt (bnd_mono h) (by decide +kernel)
theorem fold0_lt {l : List Nat} {zs : Nat → Nat → Int} {N n : Nat} (hl : ∀ i, i < n → l.getD i 0 < N) (hz : ∀ i, i < N → OkF (zs i) N) (i k : Nat) (hk : k < n) : fold0 l zs N n i k < 20001 := by
  unfold fold0
  split
  · rename_i hi
    have := (hz _ (hl i hi)).lt (hl k hk)
    omega
  · split
    · have := (hz _ (hl k hk)).part (Nat.le_refl N)
      omega
    · omega

end Go.Proofs.YtlnhpkmcinohdaaDoor

/- walks.weights: of each two vertices those of their wires, together. -/
namespace Go.Proofs.YtlnhpkmcinohdaaDoor
open Go.RowKit

theorem Tryd.infoIn1 : (Tryd.prog.info? 3).map (fun i => (i.zero, i.size, i.bytes)) = some (some (.int .i64 0), 1, 8) := by kernel_rfl
theorem Tryd.infoInS : (Tryd.prog.info? 59).map (fun i => (i.zero, i.size, i.bytes)) = some (some (.slice none 0 0), 1, 24) := by kernel_rfl
/-- What a wire gives to two vertices. -/
def wireF (x : Wr) (i k : Nat) : Int := (if x.a = (i : Int) ∧ x.b = (k : Int) then x.c else 0) + (if x.b = (i : Int) ∧ x.a = (k : Int) then x.c else 0)
def wtF : List Wr → Nat → Nat → Int
  | [], _, _ => 0
  | x :: l, i, k => wireF x i k + wtF l i k
theorem wtF_snoc (x : Wr) (i k : Nat) : ∀ l, wtF (l ++ [x]) i k = wtF l i k + wireF x i k
  | [] => by simp [wtF]
  | y :: l => by simp only [List.cons_append, wtF]; rw [wtF_snoc x i k l]; omega
theorem wireF_range {x : Wr} (h : x.a ≠ x.b) (hc : 0 ≤ x.c) (i k : Nat) : 0 ≤ wireF x i k ∧ wireF x i k ≤ x.c := by
  unfold wireF
  by_cases h1 : x.a = (i : Int) ∧ x.b = (k : Int)
  · rw [if_pos h1, if_neg (by omega)]; omega
  · rw [if_neg h1]; split <;> omega
theorem wtF_range : ∀ {l : List Wr}, (∀ x, x ∈ l → x.a ≠ x.b ∧ 0 ≤ x.c ∧ x.c ≤ 1000) → ∀ i k, 0 ≤ wtF l i k ∧ wtF l i k ≤ 1000 * (l.length : Int)
  | [], _, i, k => ⟨Int.le_refl _, Int.le_refl _⟩
  | x :: l, h, i, k => by
    obtain ⟨h1, h2, h3⟩ := h x (by simp)
    have h4 := wireF_range h1 h2 i k
    have h5 := wtF_range (l := l) (fun y hy => h y (List.mem_cons_of_mem _ hy)) i k
    show 0 ≤ wireF x i k + wtF l i k ∧ wireF x i k + wtF l i k ≤ _
    simp only [List.length_cons]
    omega
theorem wireF_symm (x : Wr) (i k : Nat) : wireF x i k = wireF x k i := by
  unfold wireF
  by_cases h1 : x.a = (i : Int) ∧ x.b = (k : Int) <;> by_cases h2 : x.b = (i : Int) ∧ x.a = (k : Int)
  · rw [if_pos h1, if_pos h2, if_pos ⟨h2.2, h2.1⟩, if_pos ⟨h1.2, h1.1⟩]
  · rw [if_pos h1, if_neg h2, if_neg (fun h => h2 ⟨h.2, h.1⟩), if_pos ⟨h1.2, h1.1⟩]; omega
  · rw [if_neg h1, if_pos h2, if_pos ⟨h2.2, h2.1⟩, if_neg (fun h => h1 ⟨h.2, h.1⟩)]; omega
  · rw [if_neg h1, if_neg h2, if_neg (fun h => h2 ⟨h.2, h.1⟩), if_neg (fun h => h1 ⟨h.2, h.1⟩)]
theorem wtF_symm (i k : Nat) : ∀ l, wtF l i k = wtF l k i
  | [] => rfl
  | x :: l => by show wireF x i k + _ = wireF x k i + _; rw [wireF_symm x i k, wtF_symm i k l]
/-- How much a wire gives to a row. -/
theorem wireF_row {x : Wr} (h : x.a ≠ x.b) (hc : 0 ≤ x.c) (i : Nat) : ∀ K, 0 ≤ sumN (wireF x i) K ∧ sumN (wireF x i) K ≤ (if (x.a = (i : Int) ∧ x.b < (K : Int)) ∨ (x.b = (i : Int) ∧ x.a < (K : Int)) then x.c else 0)
  | 0 => by show 0 ≤ (0 : Int) ∧ (0 : Int) ≤ _; split <;> omega
  | K + 1 => by
    have ih := wireF_row h hc i K
    show 0 ≤ sumN (wireF x i) K + wireF x i K ∧ sumN (wireF x i) K + wireF x i K ≤ _
    have e : wireF x i K = (if x.a = (i : Int) ∧ x.b = (K : Int) then x.c else 0) + (if x.b = (i : Int) ∧ x.a = (K : Int) then x.c else 0) := rfl
    have c1 : ((K + 1 : Nat) : Int) = (K : Int) + 1 := by omega
    rw [e, c1]
    by_cases h1 : x.a = (i : Int)
    · have h2 : x.b ≠ (i : Int) := by omega
      by_cases h3 : x.b = (K : Int)
      · rw [if_pos ⟨h1, h3⟩, if_neg (by omega), if_pos (Or.inl ⟨h1, by omega⟩)]
        rw [if_neg (by omega)] at ih
        omega
      · rw [if_neg (by omega), if_neg (by omega)]
        by_cases h4 : x.b < (K : Int)
        · rw [if_pos (Or.inl ⟨h1, by omega⟩)]; rw [if_pos (Or.inl ⟨h1, h4⟩)] at ih; omega
        · rw [if_neg (by omega)]; rw [if_neg (by omega)] at ih; omega
    · by_cases h2 : x.b = (i : Int)
      · by_cases h3 : x.a = (K : Int)
        · rw [if_neg (by omega), if_pos ⟨h2, h3⟩, if_pos (Or.inr ⟨h2, by omega⟩)]
          rw [if_neg (by omega)] at ih
          omega
        · rw [if_neg (by omega), if_neg (by omega)]
          by_cases h4 : x.a < (K : Int)
          · rw [if_pos (Or.inr ⟨h2, by omega⟩)]; rw [if_pos (Or.inr ⟨h2, h4⟩)] at ih; omega
          · rw [if_neg (by omega)]; rw [if_neg (by omega)] at ih; omega
      · rw [if_neg (by omega), if_neg (by omega), if_neg (by omega)]
        rw [if_neg (by omega)] at ih
        omega
theorem sumN_addW (f g : Nat → Int) : ∀ n, sumN (fun i => f i + g i) n = sumN f n + sumN g n
  | 0 => rfl
  | n + 1 => by show sumN (fun i => f i + g i) n + (f n + g n) = sumN f n + f n + (sumN g n + g n); rw [sumN_addW f g n]; omega
theorem wtF_row : ∀ {l : List Wr}, (∀ x, x ∈ l → x.a ≠ x.b ∧ 0 ≤ x.c ∧ x.c ≤ 1000) → ∀ i K, 0 ≤ sumN (wtF l i) K ∧ sumN (wtF l i) K ≤ 1000 * (l.length : Int)
  | [], _, i, K => by
    have : ∀ K, sumN (wtF [] i) K = 0 := fun K => by
      induction K with
      | zero => rfl
      | succ K ih => show sumN (wtF [] i) K + 0 = 0; rw [ih]; rfl
    rw [this]; exact ⟨Int.le_refl _, Int.le_refl _⟩
  | x :: l, h, i, K => by
    obtain ⟨h1, h2, h3⟩ := h x (by simp)
    have h4 := wireF_row h1 h2 i K
    have h5 := wtF_row (l := l) (fun y hy => h y (List.mem_cons_of_mem _ hy)) i K
    have e : sumN (wtF (x :: l) i) K = sumN (wireF x i) K + sumN (wtF l i) K := sumN_addW (wireF x i) (wtF l i) K
    rw [e]
    simp only [List.length_cons]
    have h6 : (if (x.a = (i : Int) ∧ x.b < (K : Int)) ∨ (x.b = (i : Int) ∧ x.a < (K : Int)) then x.c else 0) ≤ 1000 := by split <;> omega
    omega
theorem wires_c {N : Int} {l : List Wr} (h : wiresB N l = true) : ∀ x, x ∈ l → x.a ≠ x.b ∧ 0 ≤ x.c ∧ x.c ≤ 1000 := fun x hx => by have := wireB_parts (wiresB_mem h x hx); exact ⟨this.2.2.2.2.1, by omega, this.2.2.2.2.2.2⟩
theorem wt_ok {N : Int} {l : List Wr} (h : wiresB N l = true) (hl : l.length ≤ 20) (i n : Nat) : OkF (wtF l i) n :=
  ⟨fun {k} _ => by have := wtF_range (wires_c h) i k; omega, fun {k} _ => by have := wtF_row (wires_c h) i k; omega⟩

set_option maxRecDepth 100000 in
set_option maxHeartbeats 8000000 in
theorem weights_any (N : Nat) (v : Value) (L : List Wr) (w : World) (h : WrAt w v L) (hl : L.length ≤ 20) (hN : N ≤ 8) (hs : wiresB N L = true) :
    Calls Tryd.prog 25 #[.agg #[.int .i64 N, v]] w fun e w' => ∃ r, e = .returned r ∧ RowsAt w' r N (wtF L) ∧ Below w.heap.size w w' := by
  obtain ⟨i0, hi, hz0, hz1, hz2⟩ := info_parts Tryd.infoInS
  have HINF : Hid (Tryd.prog.info? 59 = some i0 ∧ i0.zero = some (.slice none 0 0) ∧ i0.size = 1 ∧ i0.bytes = 24) := ⟨hi, hz0, hz1, hz2⟩
  clear hi hz0 hz1 hz2
  obtain ⟨i1, hi, hz0, hz1, hz2⟩ := info_parts Tryd.infoIn1
  have HINI : Hid (Tryd.prog.info? 3 = some i1 ∧ i1.zero = some (.int .i64 0) ∧ i1.size = 1 ∧ i1.bytes = 8) := ⟨hi, hz0, hz1, hz2⟩
  clear hi hz0 hz1 hz2
  obtain ⟨ad, cap, rfl⟩ := h.form
  obtain ⟨W1, hW1⟩ : ∃ W1, W1 = w.alloc (.cells #[.int .i64 N, .slice ad L.length cap] 34) := ⟨_, rfl⟩
  obtain ⟨bx, hbx⟩ : ∃ bx, bx = w.heap.size := ⟨_, rfl⟩
  have hb1 : Below w.heap.size w W1 := by rw [hW1]; exact (Below.refl _ _).alloc (Nat.le_refl _) _
  have q0 : W1.cell? ⟨bx, 0, none⟩ = some (.int .i64 N) := by rw [hW1, hbx]; go_simp
  have q1 : W1.cell? ⟨bx, 1, none⟩ = some (.slice ad L.length cap) := by rw [hW1, hbx]; go_simp
  have HC : Hid (∀ W, Below W1.heap.size W1 W → W.cell? ⟨bx, 0, none⟩ = some (.int .i64 N) ∧ W.cell? ⟨bx, 1, none⟩ = some (.slice ad L.length cap)) := fun W hb => ⟨by rw [hb.cell (cell_lt q0)]; exact q0, by rw [hb.cell (cell_lt q1)]; exact q1⟩
  have HL := Hid.mk' (fun (W : World) (hb : Below W1.heap.size W1 W) => (h.later hb1).later hb)
  have HEND := Hid.mk' hb1
  have HWB := Hid.mk' (fun (x : Wr) (hx : x ∈ L) => wireB_parts (wiresB_mem hs x hx))
  have HWC := Hid.mk' (wires_c hs)
  clear h hs hb1
  go_enter Tryd.func25, Tryd.ntmps25
  go_upto_region 1 with fail
  rw [← hW1, ← hbx]
  clear hW1 hbx
  go_wp2_with (at_make; go_must (refine wpList_make_full _ rfl _ _ _ rfl W1.heap.size 59 i0 _ 1 Tryd.underlying36 HINF.out.1 HINF.out.2.1 HINF.out.2.2.1 .i64 .i64 _ _ N rfl rfl rfl rfl (by rw [HINF.out.2.2.2]; omega) (by unfold maxLen; omega) (Nat.le_refl _) ?_; intro w2 hown2 hgrow2; have HG2 := Hid.mk' (gridB_start (C := N) (rowIs_made hown2 (made_one (.slice none 0 0) rfl N)) (made_below hgrow2) (Nat.le_refl _) (fun _ => 0) (fun _ _ => .int .i64 0)); clear hown2 hgrow2))
  clear q0 q1
  obtain ⟨g, hg⟩ : ∃ g, g = W1.heap.size := ⟨_, rfl⟩
  rw [← hg] at HG2 ⊢
  clear hg
  go_loopw [12] (fun i wr => ∃ (k : Nat) (rb : Nat → Nat), k ≤ N ∧ i = .int .i64 k ∧ Hid (GridB W1 wr g N N k rb (fun _ _ => .int .i64 0))) (fun i _ => N - (intOf i).toNat)
  case atStart => exact ⟨0, _, Nat.zero_le _, rfl, HG2.out⟩
  case round =>
    clear HG2
    obtain ⟨k, rb, hk, rfl, HG⟩ := hrel
    rcases Nat.lt_or_ge k N with h1 | h1
    · have hkn : (k : Int) < (N : Int) := by omega
      have hk0 : (0 : Int) ≤ (k : Int) := by omega
      obtain ⟨q0, q1⟩ := HC.out wr HG.out.below
      go_wp2_with (at_make; go_must (refine wpList_make_full _ rfl _ _ _ rfl wr.heap.size 3 i1 _ 1 Tryd.underlying59 HINI.out.1 HINI.out.2.1 HINI.out.2.2.1 .i64 .i64 _ _ N rfl rfl rfl rfl (by rw [HINI.out.2.2.2]; omega) (by unfold maxLen; omega) (Nat.le_refl _) ?_; intro w3 hown3 hgrow3; have hb3 := made_below hgrow3; have hsz3 := heap_of_row hown3; have HG3 := Hid.mk' (HG.out.push h1 hb3 (Nat.le_refl _) hsz3 (rowIs_made hown3 (made_one (.int .i64 0) rfl N))); obtain ⟨x3, hx3⟩ := (HG.out.later hb3).outer k h1; have hf3 := (HG.out.later hb3).ofz k h1; clear hown3 hgrow3 hb3 hsz3))
      exact ⟨⟨k + 1, _, h1, by go_num, HG3.out.congr (fun i c hi hc => by by_cases h5 : i = k <;> simp [h5])⟩, by simp [intOf]; omega⟩
    · obtain rfl : N = k := by omega
      have HG0 : Hid (GridB W1 wr g N N N rb (fun i c => .int .i64 (wtF (L.take 0) i c))) := HG.out.congr (fun i c _ _ => rfl)
      obtain ⟨q0, q1⟩ := HC.out wr HG.out.below
      clear HG
      go_wp2_with fail
      clear q0 q1
      obtain ⟨Wr, hWr⟩ : ∃ Wr, Wr = wr := ⟨_, rfl⟩
      rw [← hWr] at HG0 ⊢
      clear hWr hk h1
      go_loopw [25] (fun i wr => ∃ k : Nat, k ≤ L.length ∧ i = .int .i64 k ∧ Hid (GridB W1 wr g N N N rb (fun i c => .int .i64 (wtF (L.take k) i c)))) (fun i _ => L.length - (intOf i).toNat)
      case atStart => exact ⟨0, Nat.zero_le _, rfl, HG0.out⟩
      case round =>
        clear HG0
        obtain ⟨k, hk, rfl, HG⟩ := hrel
        have hk0 : (0 : Int) ≤ (k : Int) := by omega
        rcases Nat.lt_or_ge k L.length with h5 | h5
        · obtain ⟨x, hx⟩ : ∃ x, L[k]? = some x := ⟨_, List.getElem?_eq_getElem h5⟩
          obtain ⟨b, o, hbo, x0, x1, x2⟩ := (HL.out wr HG.out.below).at hx
          subst hbo
          obtain ⟨pa0, paN, pb0, pbN, pab, pc1, pc2⟩ := HWB.out x (List.mem_of_getElem? hx)
          have HTK : Hid (∀ i c, wtF (L.take (k + 1)) i c = wtF (L.take k) i c + wireF x i c) := fun i c => by
            obtain ⟨hi, rfl⟩ := List.getElem?_eq_some_iff.1 hx
            rw [List.take_succ_eq_append_getElem hi, wtF_snoc]
          have HRG : Hid (∀ i c, 0 ≤ wtF (L.take k) i c ∧ wtF (L.take k) i c ≤ 20000) := fun i c => by
            have h1 := wtF_range (l := L.take k) (fun y hy => HWC.out y (List.mem_of_mem_take hy)) i c
            have h2 : (L.take k).length ≤ 20 := by rw [List.length_take]; omega
            omega
          have hkI : (k : Int) < (L.length : Int) := by omega
          obtain ⟨na, hna⟩ : ∃ na : Nat, x.a = (na : Int) := ⟨x.a.toNat, by omega⟩
          obtain ⟨nb, hnb⟩ : ∃ nb : Nat, x.b = (nb : Int) := ⟨x.b.toNat, by omega⟩
          obtain ⟨nc, hnc⟩ : ∃ nc : Int, nc = x.c := ⟨_, rfl⟩
          have HWF : Hid (∀ i c, wireF x i c = (if i = na ∧ c = nb then nc else 0) + (if i = nb ∧ c = na then nc else 0)) := fun i c => by
            unfold wireF
            rw [hna, hnb, hnc]
            have e1 : ((na : Int) = (i : Int) ∧ (nb : Int) = (c : Int)) ↔ (i = na ∧ c = nb) := by omega
            have e2 : ((nb : Int) = (i : Int) ∧ (na : Int) = (c : Int)) ↔ (i = nb ∧ c = na) := by omega
            simp only [e1, e2]
          rw [hna] at x0 pa0 paN pab
          rw [hnb] at x1 pb0 pbN pab
          rw [← hnc] at x2 pc1 pc2
          have hnaN : na < N := by omega
          have hnbN : nb < N := by omega
          have hnab : na ≠ nb := by omega
          clear hx hna hnb hnc
          obtain ⟨W4, hW4⟩ : ∃ W4, W4 = wr.alloc (.cells #[.int .i64 (na : Int), .int .i64 (nb : Int), .int .i64 nc] 47) := ⟨_, rfl⟩
          have hb4 : Below wr.heap.size wr W4 := by rw [hW4]; exact (Below.refl _ _).alloc (Nat.le_refl _) _
          have c0 : W4.cell? ⟨wr.heap.size, 0, none⟩ = some (.int .i64 (na : Int)) := by rw [hW4]; go_simp
          have c1 : W4.cell? ⟨wr.heap.size, 1, none⟩ = some (.int .i64 (nb : Int)) := by rw [hW4]; go_simp
          have c2 : W4.cell? ⟨wr.heap.size, 2, none⟩ = some (.int .i64 nc) := by rw [hW4]; go_simp
          have HG4 := Hid.mk' (HG.out.later hb4)
          have HNE : Hid (∀ i, i < N → rb i ≠ wr.heap.size) := fun i hi => by have := (HG.out.rge i hi).2.2; omega
          have HW4 := Hid.mk' hW4
          clear hb4 hW4 HG
          go_upto_region 10 with fail
          rw [← HW4.out]
          clear x0 x1 x2
          have r1 := HG4.out.made na hnaN
          have r2 := (HG4.out.rows na hnaN).row nb hnbN
          have r3 := (HG4.out.rows na hnaN).fz nb hnbN
          have n1 := HNE.out na hnaN
          have HSa := Hid.mk' (fun (W : World) (hg : GridB W1 W g N N N rb (fun i c => .int .i64 (wtF (L.take k) i c))) => hg.set (i := na) (k := nb) hnaN hnbN (.int .i64 (wtF (L.take k) na nb + nc)) (f' := fun i c => .int .i64 (wtF (L.take k) i c + if i = na ∧ c = nb then nc else 0)) (fun i c _ _ => by
            by_cases e : i = na ∧ c = nb
            · rw [if_pos e, if_pos e, e.1, e.2]
            · rw [if_neg e, if_neg e, Int.add_zero]))
          have HCC : Hid (∀ y, ((W4.setCell ⟨rb na, nb, none⟩ y).drew).cell? ⟨wr.heap.size, 0, none⟩ = some (.int .i64 (na : Int)) ∧ ((W4.setCell ⟨rb na, nb, none⟩ y).drew).cell? ⟨wr.heap.size, 1, none⟩ = some (.int .i64 (nb : Int)) ∧ ((W4.setCell ⟨rb na, nb, none⟩ y).drew).cell? ⟨wr.heap.size, 2, none⟩ = some (.int .i64 nc)) := fun y => by
            have hn : ∀ j, (⟨rb na, nb, none⟩ : Addr) ≠ ⟨wr.heap.size, j, none⟩ := fun j e => n1 (congrArg Addr.block e)
            exact ⟨by show (W4.setCell ⟨rb na, nb, none⟩ y).cell? ⟨wr.heap.size, 0, none⟩ = _; rw [World.cell?_setCell_other _ _ _ _ (hn 0)]; exact c0, by show (W4.setCell ⟨rb na, nb, none⟩ y).cell? ⟨wr.heap.size, 1, none⟩ = _; rw [World.cell?_setCell_other _ _ _ _ (hn 1)]; exact c1, by show (W4.setCell ⟨rb na, nb, none⟩ y).cell? ⟨wr.heap.size, 2, none⟩ = _; rw [World.cell?_setCell_other _ _ _ _ (hn 2)]; exact c2⟩
          have hr1 := HRG.out na nb
          have hr2 := HRG.out nb na
          generalize wr.heap.size = wb at *
          obtain ⟨v1, hv1⟩ : ∃ v1, v1 = wtF (L.take k) na nb := ⟨_, rfl⟩
          obtain ⟨v2, hv2⟩ : ∃ v2, v2 = wtF (L.take k) nb na := ⟨_, rfl⟩
          have HV := Hid.mk' (And.intro hv1 hv2)
          rw [← hv1] at r2 hr1 HSa
          rw [← hv2] at hr2
          clear hv1 hv2
          obtain ⟨ra, hra⟩ : ∃ ra, ra = rb na := ⟨_, rfl⟩
          obtain ⟨rc, hrc⟩ : ∃ rc, rc = rb nb := ⟨_, rfl⟩
          have HRA := Hid.mk' (And.intro hra hrc)
          rw [← hra] at r1 r2 r3 n1 HSa HCC
          clear hra hrc
          go_wp2_with fail
          go_region
          obtain ⟨W5, hW5⟩ : ∃ W5, W5 = (W4.setCell ⟨ra, nb, none⟩ (.int .i64 (v1 + nc))).drew := ⟨_, rfl⟩
          have HG5 : Hid (GridB W1 W5 g N N N rb (fun i c => .int .i64 (wtF (L.take k) i c + if i = na ∧ c = nb then nc else 0))) := by rw [hW5]; exact (HSa.out W4 HG4.out).drewN
          obtain ⟨d0, d1, d2⟩ := HCC.out (.int .i64 (v1 + nc))
          rw [← hW5] at d0 d1 d2 ⊢
          clear hW5 c0 c1 c2 r1 r2 r3 n1 HG4 HSa HCC
          have s1 := HG5.out.made nb hnbN
          have s2 := (HG5.out.rows nb hnbN).row na hnaN
          have s3 := (HG5.out.rows nb hnbN).fz na hnaN
          rw [if_neg (by omega), Int.add_zero, ← HV.out.2, ← HRA.out.2] at s2
          rw [← HRA.out.2] at s1 s3
          have HSb := Hid.mk' (fun (W : World) (hg : GridB W1 W g N N N rb (fun i c => .int .i64 (wtF (L.take k) i c + if i = na ∧ c = nb then nc else 0))) => hg.set (i := nb) (k := na) hnbN hnaN (.int .i64 (wtF (L.take k) nb na + nc)) (f' := fun i c => .int .i64 (wtF (L.take (k + 1)) i c)) (fun i c _ _ => by
            rw [HTK.out, HWF.out]
            by_cases e : i = nb ∧ c = na
            · rw [if_pos e, if_pos e, e.1, e.2, if_neg (by omega), Int.zero_add]
            · rw [if_neg e, if_neg e, Int.add_zero]))
          rw [← HV.out.2, ← HRA.out.2] at HSb
          go_wp2_with fail
          go_region
          go_wp2_with fail
          exact ⟨⟨k + 1, h5, by go_num, (HSb.out W5 HG5.out).drewN⟩, by simp [intOf]; omega⟩
        · obtain rfl : k = L.length := by omega
          rw [List.take_length] at HG
          have HR := Hid.mk' HG.out.at
          have HB := Hid.mk' (below_chain HEND.out HG.out.below)
          clear HG
          go_wp2_with fail
          go_ret
          exact ⟨_, rfl, HR.out, HB.out⟩
end Go.Proofs.YtlnhpkmcinohdaaDoor

/- The document's joinedTo, of all wires. -/
namespace Go.Proofs.YtlnhpkmcinohdaaDoor
open Go.RowKit

set_option maxRecDepth 100000 in
theorem Contains_none (v : Value) (l : List Nat) (w : World) (h : StatesAt w v l) (_ : l.length ≤ 1000) :
    Calls Tryd.prog 32 #[v, .int .i64 (-1)] w fun e w' => e = .returned (.bool false) ∧ w' = w := by
  obtain ⟨ad, cap, rfl⟩ := NumsAt.form h
  have HR : Hid (∀ i, i < l.length → ∃ b o, ad = some ⟨b, o, none⟩ ∧ w.cell? ⟨b, o + i, none⟩ = some (.int .i64 ((l.getD i 0 : Nat) : Int))) := fun i hi => by
    rcases h with ⟨_, _, _, h0⟩ | ⟨b, o, c, h1, _, h2⟩
    · omega
    · simp only [Value.slice.injEq, true_and] at h1
      exact ⟨b, o, h1.1, h2 i hi⟩
  clear h
  go_enter Tryd.func32, Tryd.ntmps32
  go_wp2_with fail
  go_loop [5] (fun t => ∃ k : Nat, k ≤ l.length ∧ t = .int .i64 k) (fun t => l.length - (intOf t).toNat)
  case atStart => exact ⟨0, Nat.zero_le _, rfl⟩
  case round =>
    obtain ⟨k, hk, rfl⟩ := hrel
    rcases Nat.lt_or_ge k l.length with h1 | h1
    · have hkI : (k : Int) < (l.length : Int) := by omega
      have hk0 : (0 : Int) ≤ (k : Int) := by omega
      obtain ⟨b, o, hadd, hc⟩ := HR.out k h1
      subst hadd
      have hb : (((l.getD k 0 : Nat) : Int) == (-1 : Int)) = false := by rw [beq_eq_false_iff_ne]; omega
      generalize l.getD k 0 = y at *
      go_wp2_with fail
      exact ⟨⟨k + 1, h1, by go_num⟩, by simp [intOf]; omega⟩
    · obtain rfl : k = l.length := by omega
      go_wp2_with fail
      go_ret
      exact ⟨rfl, rfl⟩
theorem below_drawn {w W : World} {n : Nat} (h : Below n w W) : ∀ k, Below n w (W.drewN k)
  | 0 => h
  | k + 1 => (below_drawn h k).drew
/-- All that the wires reach from the states ahead of the m-th is there. -/
def DoneW (L : List Wr) (l : List Nat) (m : Nat) : Prop := ∀ k, k < m → ∀ x, x ∈ L → (x.a = ((l.getD k 0 : Nat) : Int) → x.b.toNat ∈ l) ∧ (x.b = ((l.getD k 0 : Nat) : Int) → x.a.toNat ∈ l)
/-- And what the first i wires reach from the m-th. -/
def HalfW (L : List Wr) (l : List Nat) (m i : Nat) : Prop := ∀ x, x ∈ L.take i → (x.a = ((l.getD m 0 : Nat) : Int) → x.b.toNat ∈ l) ∧ (x.b = ((l.getD m 0 : Nat) : Int) → x.a.toNat ∈ l)
theorem getD_push {l : List Nat} {k v : Nat} (h : k < l.length) : (l ++ [v]).getD k 0 = l.getD k 0 := by
  rw [List.getD_eq_getElem?_getD, List.getD_eq_getElem?_getD, List.getElem?_append_left h]
theorem DoneW.push {L : List Wr} {l : List Nat} {m v : Nat} (h : DoneW L l m) (hm : m ≤ l.length) : DoneW L (l ++ [v]) m := fun k hk x hx => by
  rw [getD_push (by omega)]
  have := h k hk x hx
  exact ⟨fun e => by simp [this.1 e], fun e => by simp [this.2 e]⟩
theorem HalfW.push {L : List Wr} {l : List Nat} {m i v : Nat} (h : HalfW L l m i) (hm : m < l.length) : HalfW L (l ++ [v]) m i := fun x hx => by
  rw [getD_push hm]
  have := h x hx
  exact ⟨fun e => by simp [this.1 e], fun e => by simp [this.2 e]⟩
theorem HalfW.next {L : List Wr} {l : List Nat} {m i : Nat} {x : Wr} (h : HalfW L l m i) (hx : L[i]? = some x) (h2 : (x.a = ((l.getD m 0 : Nat) : Int) → x.b.toNat ∈ l) ∧ (x.b = ((l.getD m 0 : Nat) : Int) → x.a.toNat ∈ l)) : HalfW L l m (i + 1) := fun y hy => by
  obtain ⟨hi, rfl⟩ := List.getElem?_eq_some_iff.1 hx
  rw [List.take_succ_eq_append_getElem hi] at hy
  rcases List.mem_append.1 hy with hy | hy
  · exact h y hy
  · simp at hy; subst hy; exact h2
theorem HalfW.done {L : List Wr} {l : List Nat} {m : Nat} (h : HalfW L l m L.length) (hd : DoneW L l m) : DoneW L l (m + 1) := fun k hk x hx => by
  rcases Nat.lt_or_ge k m with h1 | h1
  · exact hd k h1 x hx
  · obtain rfl : k = m := by omega
    exact h x (by rw [List.take_length]; exact hx)

set_option maxRecDepth 100000 in
set_option maxHeartbeats 8000000 in
theorem joinedTo_any (N : Nat) (v : Value) (L : List Wr) (w : World) (h : WrAt w v L) (hl : L.length ≤ 20) (hN1 : 1 ≤ N) (hN : N ≤ 8) (hin : InR N L) :
    Calls Tryd.prog 20 #[.agg #[.int .i64 N, v], .int .i64 (L.length : Int), .int .i64 (-1)] w fun e w' => e = .returned (.bool (joinV L.length N L)) ∧ Below w.heap.size w w' := by
  obtain ⟨i1, hi, hz0, hz1, hz2⟩ := info_parts Tryd.infoIn1
  have HINI : Hid (Tryd.prog.info? 3 = some i1 ∧ i1.zero = some (.int .i64 0) ∧ i1.size = 1 ∧ i1.bytes = 8) := ⟨hi, hz0, hz1, hz2⟩
  clear hi hz0 hz1 hz2
  obtain ⟨ad, cap, rfl⟩ := h.form
  obtain ⟨W1, hW1⟩ : ∃ W1, W1 = w.alloc (.cells #[.int .i64 N, .slice ad L.length cap] 24) := ⟨_, rfl⟩
  obtain ⟨bx, hbx⟩ : ∃ bx, bx = w.heap.size := ⟨_, rfl⟩
  have hb1 : Below w.heap.size w W1 := by rw [hW1]; exact (Below.refl _ _).alloc (Nat.le_refl _) _
  have q0 : W1.cell? ⟨bx, 0, none⟩ = some (.int .i64 N) := by rw [hW1, hbx]; go_simp
  have q1 : W1.cell? ⟨bx, 1, none⟩ = some (.slice ad L.length cap) := by rw [hW1, hbx]; go_simp
  have HC : Hid (∀ W, Below W1.heap.size W1 W → W.cell? ⟨bx, 0, none⟩ = some (.int .i64 N) ∧ W.cell? ⟨bx, 1, none⟩ = some (.slice ad L.length cap)) := fun W hb => ⟨by rw [hb.cell (cell_lt q0)]; exact q0, by rw [hb.cell (cell_lt q1)]; exact q1⟩
  have HL := Hid.mk' (fun (W : World) (hb : Below W1.heap.size W1 W) => (h.later hb1).later hb)
  have HEND := Hid.mk' hb1
  have HIN := Hid.mk' hin
  obtain ⟨W2, hW2⟩ : ∃ W2, W2 = W1.alloc (.cells #[.int .i64 0] 3) := ⟨_, rfl⟩
  have hb2 : Below W1.heap.size W1 W2 := by rw [hW2]; exact (Below.refl _ _).alloc (Nat.le_refl _) _
  have HO2 : Hid (W2.ownsRow W1.heap.size 3 1 (.slice (some ⟨W1.heap.size, 0, none⟩) 1 1) 1 (cellL (natL [0]))) := by
    rw [hW2]
    refine ⟨rfl, Or.inr ⟨W1.heap.size, 1, #[.int .i64 0], rfl, Nat.le_refl _, ?_, by decide, by decide, rfl, rfl⟩⟩
    unfold World.alloc; simp
  have HB2 := Hid.mk' hb2
  clear h hin hb1 hb2
  go_enter Tryd.func20, Tryd.ntmps20
  go_upto_region 1 with fail
  rw [← hW1, ← hbx]
  clear hW1 hbx
  go_upto_region 2 with fail
  rw [← hW2]
  clear hW2
  obtain ⟨q0, q1⟩ := HC.out W2 HB2.out
  go_wp2_with fail
  clear q0 q1
  go_loopw [7, 8] (fun s i wr => ∃ (n : Nat) (l : List Nat), n ≤ l.length ∧ i = .int .i64 n ∧ Hid (ReaW N L l ∧ DoneW L l n) ∧ Hid (wr.ownsRow W1.heap.size 3 1 s l.length (cellL (natL l))) ∧ Hid (Below W1.heap.size W1 wr)) (fun _ i _ => N - (intOf i).toNat)
  case atStart => exact ⟨0, [0], Nat.zero_le _, rfl, ⟨ReaW.start (by omega) L, fun k hk => by omega⟩, HO2.out, HB2.out⟩
  case round =>
    clear HO2 HB2
    obtain ⟨n, l, hnl, rfl, HR, HO, HB⟩ := hrel
    have hn0 : (0 : Int) ≤ (n : Int) := by omega
    have hlN := nodup_len N l HR.out.1.nd HR.out.1.lt
    obtain ⟨sad, scap, rfl⟩ := own_formW HO.out
    rcases Nat.lt_or_ge n l.length with h1 | h1
    · have hnI : (n : Int) < (l.length : Int) := by omega
      have HH : Hid (HalfW L l n 0) := fun x hx => by simp at hx
      go_wp2_with fail
      obtain ⟨Wr, hWr⟩ : ∃ Wr, Wr = wr := ⟨_, rfl⟩
      rw [← hWr] at HO HB ⊢
      clear hWr
      go_loopw [7, 9] (fun s i wr => ∃ (k : Nat) (l : List Nat), k ≤ L.length ∧ n < l.length ∧ i = .int .i64 k ∧ Hid (ReaW N L l ∧ DoneW L l n ∧ HalfW L l n k) ∧ Hid (wr.ownsRow W1.heap.size 3 1 s l.length (cellL (natL l))) ∧ Hid (Below W1.heap.size W1 wr)) (fun _ i _ => L.length - (intOf i).toNat)
      case atStart => exact ⟨0, l, Nat.zero_le _, h1, rfl, ⟨HR.out.1, HR.out.2, HH.out⟩, HO.out, HB.out⟩
      case round =>
        clear HO HB HR HH hlN h1 hnI hnl
        obtain ⟨k, l, hk, h1, rfl, HR, HO, HB⟩ := hrel
        have hk0 : (0 : Int) ≤ (k : Int) := by omega
        have hlN := nodup_len N l HR.out.1.nd HR.out.1.lt
        obtain ⟨sad, scap, rfl⟩ := own_formW HO.out
        rcases Nat.lt_or_ge k L.length with h5 | h5
        · have hkI : (k : Int) < (L.length : Int) := by omega
          obtain ⟨x, hx⟩ : ∃ x, L[k]? = some x := ⟨_, List.getElem?_eq_getElem h5⟩
          obtain ⟨b, o, hbo, x0, x1, x2⟩ := (HL.out wr HB.out).at hx
          subst hbo
          have hxm := List.mem_of_getElem? hx
          obtain ⟨pa0, paN, pb0, pbN, pab⟩ := HIN.out x hxm
          have hst := statesAt_row HO.out
          obtain ⟨sb, hsb, hrow⟩ : ∃ sb, sad = some ⟨sb, 0, none⟩ ∧ RowAt wr sb 0 l.length (fun i => ((l.getD i 0 : Nat) : Int)) := by
            rcases HO.out.2 with ⟨_, h0⟩ | ⟨g, cap, cur, hv, _⟩
            · omega
            · obtain ⟨rfl, rfl⟩ : sad = some ⟨g, 0, none⟩ ∧ scap = cap := by simpa using hv
              refine ⟨g, rfl, ?_⟩
              rcases hst with ⟨_, _, _, h0⟩ | ⟨b', o', c', h1', _, h2'⟩
              · omega
              · simp only [Value.slice.injEq, Option.some.injEq, Addr.mk.injEq, and_true, true_and] at h1'
                obtain ⟨⟨rfl, rfl⟩, _⟩ := h1'
                exact h2'
          subst hsb
          obtain ⟨u, hu⟩ : ∃ u, u = l.getD n 0 := ⟨_, rfl⟩
          have hum : u ∈ l := by rw [hu, List.getD_eq_getElem?_getD, List.getElem?_eq_getElem h1]; simp
          have hrn := hrow n h1
          rw [Nat.zero_add] at hrn
          have hrn : wr.cell? ⟨sb, n, none⟩ = some (.int .i64 (u : Int)) := by rw [hu]; exact hrn
          obtain ⟨na, hna⟩ : ∃ na : Nat, x.a = (na : Int) := ⟨x.a.toNat, by omega⟩
          obtain ⟨nb, hnb⟩ : ∃ nb : Nat, x.b = (nb : Int) := ⟨x.b.toNat, by omega⟩
          have hnaN : na < N := by omega
          have hnbN : nb < N := by omega
          have hnab : na ≠ nb := by omega
          -- what becomes of the list
          have HNX : Hid (∀ l', (l' = l ∧ (na = u → nb ∈ l) ∧ (nb = u → na ∈ l)) ∨ (∃ q, l' = l ++ [q] ∧ q ∉ l ∧ (na = u ∧ q = nb ∨ nb = u ∧ q = na)) → ReaW N L l' ∧ DoneW L l' n ∧ HalfW L l' n (k + 1) ∧ n < l'.length) := fun l' hl' => by
            rcases hl' with ⟨rfl, k1, k2⟩ | ⟨q, rfl, k1, k2⟩
            · refine ⟨HR.out.1, HR.out.2.1, HR.out.2.2.next hx ⟨fun e => ?_, fun e => ?_⟩, h1⟩
              · rw [hna, ← hu] at e; rw [hnb]; simpa using k1 (by omega)
              · rw [hnb, ← hu] at e; rw [hna]; simpa using k2 (by omega)
            · refine ⟨HR.out.1.push hxm hum (by rcases k2 with ⟨_, rfl⟩ | ⟨_, rfl⟩ <;> assumption) k1 (by rw [hna, hnb]; rcases k2 with ⟨rfl, rfl⟩ | ⟨rfl, rfl⟩ <;> simp), HR.out.2.1.push (by omega), (HR.out.2.2.push h1).next hx ?_, by simp; omega⟩
              rw [getD_push h1, hna, hnb, ← hu]
              rcases k2 with ⟨e1, rfl⟩ | ⟨e1, rfl⟩
              · exact ⟨fun _ => by simp, fun e => absurd e (by omega)⟩
              · exact ⟨fun e => absurd e (by omega), fun _ => by simp⟩
          have huN := HR.out.1.lt u hum
          rw [hna] at x0
          rw [hnb] at x1
          obtain ⟨W4, hW4⟩ : ∃ W4, W4 = wr.alloc (.cells #[.int .i64 (na : Int), .int .i64 (nb : Int), .int .i64 x.c] 48) := ⟨_, rfl⟩
          have hb4 : Below wr.heap.size wr W4 := by rw [hW4]; exact (Below.refl _ _).alloc (Nat.le_refl _) _
          have c0 : W4.cell? ⟨wr.heap.size, 0, none⟩ = some (.int .i64 (na : Int)) := by rw [hW4]; go_simp
          have c1 : W4.cell? ⟨wr.heap.size, 1, none⟩ = some (.int .i64 (nb : Int)) := by rw [hW4]; go_simp
          have hrn4 : W4.cell? ⟨sb, n, none⟩ = some (.int .i64 (u : Int)) := by rw [hb4.cell (cell_lt hrn)]; exact hrn
          have HO4 := Hid.mk' (own_pastW HO.out hb4)
          have HB4 := Hid.mk' (below_chain HB.out hb4)
          have HW4 := Hid.mk' hW4
          obtain ⟨q0, q1⟩ := HC.out wr HB.out
          clear hst hrow hrn hxm hum hx hu hna hnb hb4 hW4 HO HB HR pa0 paN pb0 pbN pab
          go_upto_region 10 with fail
          rw [← HW4.out]
          clear x0 x1 x2 q0 q1
          obtain ⟨cb, hcb⟩ : ∃ cb, cb = wr.heap.size := ⟨_, rfl⟩
          rw [← hcb] at c0 c1 ⊢
          clear hcb HW4
          by_cases ea : na = u
          · have eb : nb ≠ u := by omega
            have ead : ((na : Int) == (u : Int)) = true := by simp [ea]
            have ebd : ((nb : Int) == (u : Int)) = false := by rw [beq_eq_false_iff_ne]; omega
            have HEA := Hid.mk' (And.intro ea eb)
            clear ea eb
            go_wp2_with fail
            go_quiet (fail)
            go_wp2_with fail
            go_quiet (fail)
            go_wp2_with fail
            have HOD := Hid.mk' (fun (K : Nat) => own_pastW HO4.out (below_drawn (Below.refl W4.heap.size W4) K))
            have HBD := Hid.mk' (fun (K : Nat) => below_chain HB4.out (below_drawn (Below.refl W4.heap.size W4) K))
            clear c0 c1 hrn4
            refine (Contains_any _ l nb _ (statesAt_row (HOD.out _)) (by omega)).mono ?_
            rintro e w5 ⟨rfl, hw5⟩
            have HO5 : Hid (w5.ownsRow W1.heap.size 3 1 (.slice (some ⟨sb, 0, none⟩) l.length scap) l.length (cellL (natL l))) := by rw [hw5]; exact HOD.out _
            have HB5 : Hid (Below W1.heap.size W1 w5) := by rw [hw5]; exact HBD.out _
            clear hw5 HOD HBD HO4 HB4
            by_cases hm : nb ∈ l
            · have hmd : decide (nb ∈ l) = true := decide_eq_true hm
              have HN2 := Hid.mk' (HNX.out l (Or.inl ⟨rfl, fun _ => hm, fun e => absurd e (by have := HEA.out; omega)⟩))
              clear hm
              go_wp2_with fail
              exact ⟨⟨k + 1, l, h5, h1, by go_num, ⟨HN2.out.1, HN2.out.2.1, HN2.out.2.2.1⟩, HO5.out, HB5.out⟩, by simp [intOf]; omega⟩
            · have hmd : decide (nb ∈ l) = false := decide_eq_false hm
              have HN2 := Hid.mk' (HNX.out (l ++ [nb]) (Or.inr ⟨nb, rfl, hm, Or.inl ⟨HEA.out.1, rfl⟩⟩))
              have hsz := HB5.out.size
              clear hm
              go_wp2_with (at_builtin; go_must (refine wpList_append_lies _ rfl _ _ _ rfl W1.heap.size 3 i1 _ 1 8 Tryd.underlying59 HINI.out.1 HINI.out.2.1 HINI.out.2.2.1 HINI.out.2.2.2 rfl (by omega) _ _ _ rfl (HO5.out.alloc _) ⟨w5.heap.size, 0, none⟩ 1 1 [.int .i64 (nb : Int)] rfl rfl (one_new _ _ _) (by simp [Value.oneCell']) (by omega) (by unfold maxLen; omega) (by omega) (by simp; omega) _ rfl ?_; intro g' cap' w9 hown9 hgrow9 hat9 hlt9; have HO9 := Hid.mk' hown9; have HB9 := Hid.mk' (below_push HB5.out HO5.out hgrow9); clear hown9 hgrow9 hat9 hlt9))
              exact ⟨⟨k + 1, l ++ [nb], h5, HN2.out.2.2.2, by go_num, ⟨HN2.out.1, HN2.out.2.1, HN2.out.2.2.1⟩, by show World.ownsRow _ _ _ _ _ _ _; rw [natL_push, List.length_append]; exact HO9.out, HB9.out⟩, by simp [intOf]; omega⟩
          · have ead : ((na : Int) == (u : Int)) = false := by rw [beq_eq_false_iff_ne]; omega
            by_cases eb : nb = u
            · have ebd : ((nb : Int) == (u : Int)) = true := by simp [eb]
              have HEA := Hid.mk' (And.intro eb ea)
              clear ea eb
              go_wp2_with fail
              go_quiet (fail)
              go_wp2_with fail
              go_quiet (fail)
              go_wp2_with fail
              have HOD := Hid.mk' (fun (K : Nat) => own_pastW HO4.out (below_drawn (Below.refl W4.heap.size W4) K))
              have HBD := Hid.mk' (fun (K : Nat) => below_chain HB4.out (below_drawn (Below.refl W4.heap.size W4) K))
              clear c0 c1 hrn4
              refine (Contains_any _ l na _ (statesAt_row (HOD.out _)) (by omega)).mono ?_
              rintro e w5 ⟨rfl, hw5⟩
              have HO5 : Hid (w5.ownsRow W1.heap.size 3 1 (.slice (some ⟨sb, 0, none⟩) l.length scap) l.length (cellL (natL l))) := by rw [hw5]; exact HOD.out _
              have HB5 : Hid (Below W1.heap.size W1 w5) := by rw [hw5]; exact HBD.out _
              clear hw5 HOD HBD HO4 HB4
              by_cases hm : na ∈ l
              · have hmd : decide (na ∈ l) = true := decide_eq_true hm
                have HN2 := Hid.mk' (HNX.out l (Or.inl ⟨rfl, fun e => absurd e (by have := HEA.out; omega), fun _ => hm⟩))
                clear hm
                go_wp2_with fail
                exact ⟨⟨k + 1, l, h5, h1, by go_num, ⟨HN2.out.1, HN2.out.2.1, HN2.out.2.2.1⟩, HO5.out, HB5.out⟩, by simp [intOf]; omega⟩
              · have hmd : decide (na ∈ l) = false := decide_eq_false hm
                have HN2 := Hid.mk' (HNX.out (l ++ [na]) (Or.inr ⟨na, rfl, hm, Or.inr ⟨HEA.out.1, rfl⟩⟩))
                have hsz := HB5.out.size
                clear hm
                go_wp2_with (at_builtin; go_must (refine wpList_append_lies _ rfl _ _ _ rfl W1.heap.size 3 i1 _ 1 8 Tryd.underlying59 HINI.out.1 HINI.out.2.1 HINI.out.2.2.1 HINI.out.2.2.2 rfl (by omega) _ _ _ rfl (HO5.out.alloc _) ⟨w5.heap.size, 0, none⟩ 1 1 [.int .i64 (na : Int)] rfl rfl (one_new _ _ _) (by simp [Value.oneCell']) (by omega) (by unfold maxLen; omega) (by omega) (by simp; omega) _ rfl ?_; intro g' cap' w9 hown9 hgrow9 hat9 hlt9; have HO9 := Hid.mk' hown9; have HB9 := Hid.mk' (below_push HB5.out HO5.out hgrow9); clear hown9 hgrow9 hat9 hlt9))
                exact ⟨⟨k + 1, l ++ [na], h5, HN2.out.2.2.2, by go_num, ⟨HN2.out.1, HN2.out.2.1, HN2.out.2.2.1⟩, by show World.ownsRow _ _ _ _ _ _ _; rw [natL_push, List.length_append]; exact HO9.out, HB9.out⟩, by simp [intOf]; omega⟩
            · have ebd : ((nb : Int) == (u : Int)) = false := by rw [beq_eq_false_iff_ne]; omega
              have HN2 := Hid.mk' (HNX.out l (Or.inl ⟨rfl, fun e => absurd e ea, fun e => absurd e eb⟩))
              clear ea eb
              go_wp2_with fail
              go_quiet (fail)
              go_wp2_with fail
              go_quiet (fail)
              go_wp2_with fail
              have HOD := Hid.mk' (fun (K : Nat) => own_pastW HO4.out (below_drawn (Below.refl W4.heap.size W4) K))
              have HBD := Hid.mk' (fun (K : Nat) => below_chain HB4.out (below_drawn (Below.refl W4.heap.size W4) K))
              clear c0 c1 hrn4
              refine (Contains_none _ l _ (statesAt_row (HOD.out _)) (by omega)).mono ?_
              rintro e w5 ⟨rfl, hw5⟩
              have HO5 : Hid (w5.ownsRow W1.heap.size 3 1 (.slice (some ⟨sb, 0, none⟩) l.length scap) l.length (cellL (natL l))) := by rw [hw5]; exact HOD.out _
              have HB5 : Hid (Below W1.heap.size W1 w5) := by rw [hw5]; exact HBD.out _
              clear hw5 HOD HBD HO4 HB4
              go_wp2_with fail
              exact ⟨⟨k + 1, l, h5, h1, by go_num, ⟨HN2.out.1, HN2.out.2.1, HN2.out.2.2.1⟩, HO5.out, HB5.out⟩, by simp [intOf]; omega⟩
        · obtain rfl : k = L.length := by omega
          have HRR : Hid (ReaW N L l ∧ DoneW L l (n + 1)) := ⟨HR.out.1, HR.out.2.2.done HR.out.2.1⟩
          go_wp2_with fail
          exact ⟨⟨n + 1, l, h1, by go_num, HRR.out, HO.out, HB.out⟩, by simp [intOf]; omega⟩
    · obtain rfl : n = l.length := by omega
      have HJ : Hid (joinV L.length N L = decide (l.length = N)) := HR.out.1.fin hN1 HIN.out (fun x hx u hu => by
        obtain ⟨k, hk, rfl⟩ := List.getElem_of_mem hu
        have := HR.out.2 k hk x hx
        rw [List.getD_eq_getElem?_getD, List.getElem?_eq_getElem hk] at this
        simpa using this)
      obtain ⟨q0, q1⟩ := HC.out wr HB.out
      have HBB := Hid.mk' (below_chain HEND.out HB.out)
      have hd : ((l.length : Int) == (N : Int)) = decide (l.length = N) := by
        by_cases e : l.length = N
        · rw [decide_eq_true e, e]; simp
        · rw [decide_eq_false e, beq_eq_false_iff_ne]; omega
      clear HR HO HB
      generalize decide (l.length = N) = T at *
      go_wp2_with fail
      go_ret
      exact ⟨by rw [HJ.out]; rfl, HBB.out⟩
end Go.Proofs.YtlnhpkmcinohdaaDoor

/- The document's NetError. -/
namespace Go.Proofs.YtlnhpkmcinohdaaDoor
open Go.RowKit

set_option maxRecDepth 100000 in
set_option maxHeartbeats 8000000 in
theorem NetError_any (N : Int) (v : Value) (L : List Wr) (w : World) (h : WrAt w v L) (hl : L.length ≤ 1000) :
    Calls Tryd.prog 7 #[.agg #[.int .i64 N, v]] w fun e w' => e = .returned (.int .i64 (nwE N L : Nat)) ∧ Below w.heap.size w w' := by
  obtain ⟨ad, cap, rfl⟩ := h.form
  obtain ⟨W1, hW1⟩ : ∃ W1, W1 = w.alloc (.cells #[.int .i64 N, .slice ad L.length cap] 24) := ⟨_, rfl⟩
  obtain ⟨bx, hbx⟩ : ∃ bx, bx = w.heap.size := ⟨_, rfl⟩
  have hb1 : Below w.heap.size w W1 := by rw [hW1]; exact (Below.refl _ _).alloc (Nat.le_refl _) _
  have q0 : W1.cell? ⟨bx, 0, none⟩ = some (.int .i64 N) := by rw [hW1, hbx]; go_simp
  have q1 : W1.cell? ⟨bx, 1, none⟩ = some (.slice ad L.length cap) := by rw [hW1, hbx]; go_simp
  have HC : Hid (∀ W, Below W1.heap.size W1 W → W.cell? ⟨bx, 0, none⟩ = some (.int .i64 N) ∧ W.cell? ⟨bx, 1, none⟩ = some (.slice ad L.length cap)) := fun W hb => ⟨by rw [hb.cell (cell_lt q0)]; exact q0, by rw [hb.cell (cell_lt q1)]; exact q1⟩
  have HL := Hid.mk' (fun (W : World) (hb : Below W1.heap.size W1 W) => (h.later hb1).later hb)
  have HEND : Hid (∀ W, Below W1.heap.size W1 W → Below w.heap.size w W) := fun W hb => below_chain hb1 hb
  have HLN : Hid (L.length ≤ 1000) := hl
  clear h hb1
  by_cases hbad : N < 1 ∨ 8 < N ∨ 20 < L.length
  · have HR : Hid (nwE N L = 2) := by show _ = _; unfold nwE; rw [if_pos hbad]
    have hcase : (N < 1) ∨ (¬ N < 1 ∧ 8 < N) ∨ (¬ N < 1 ∧ ¬ 8 < N ∧ (20 : Int) < (L.length : Int)) := by omega
    clear hbad
    rcases hcase with h1 | ⟨h1, h2⟩ | ⟨h1, h2, h3⟩
    · have h1d : decide (N < 1) = true := decide_eq_true h1
      go_enter Tryd.func7, Tryd.ntmps7
      go_upto_region 1 with fail
      rw [← hW1, ← hbx]
      clear hW1 hbx
      go_wp2_with fail
      go_ret
      exact ⟨by rw [HR.out]; rfl, HEND.out _ (Below.refl _ _)⟩
    · have h1d : decide (N < 1) = false := decide_eq_false h1
      have h2d : decide (8 < N) = true := decide_eq_true h2
      go_enter Tryd.func7, Tryd.ntmps7
      go_upto_region 1 with fail
      rw [← hW1, ← hbx]
      clear hW1 hbx
      go_wp2_with fail
      go_ret
      exact ⟨by rw [HR.out]; rfl, HEND.out _ (Below.refl _ _)⟩
    · have h1d : decide (N < 1) = false := decide_eq_false h1
      have h2d : decide (8 < N) = false := decide_eq_false h2
      have h3d : decide ((20 : Int) < (L.length : Int)) = true := decide_eq_true h3
      go_enter Tryd.func7, Tryd.ntmps7
      go_upto_region 1 with fail
      rw [← hW1, ← hbx]
      clear hW1 hbx
      go_wp2_with fail
      go_ret
      exact ⟨by rw [HR.out]; rfl, HEND.out _ (Below.refl _ _)⟩
  · have h1d : decide (N < 1) = false := decide_eq_false (by omega)
    have h2d : decide (8 < N) = false := decide_eq_false (by omega)
    have h3I : ¬ (20 : Int) < (L.length : Int) := by omega
    have h3d : decide ((20 : Int) < (L.length : Int)) = false := decide_eq_false h3I
    have HR : Hid (nwE N L = if wiresB N L then (if joinV L.length N L then 0 else 6) else 3) := by show _ = _; unfold nwE; rw [if_neg hbad]
    have HNB : Hid (1 ≤ N ∧ N ≤ 8 ∧ L.length ≤ 20) := by show _ ∧ _; omega
    clear hbad
    go_enter Tryd.func7, Tryd.ntmps7
    go_upto_region 1 with fail
    rw [← hW1, ← hbx]
    clear hW1 hbx
    go_wp2_with fail
    clear q0 q1
    go_loopw [3] (fun t wr => ∃ k : Nat, k ≤ L.length ∧ t = .int .i64 k ∧ Hid (wiresB N (L.take k) = true) ∧ Hid (Below W1.heap.size W1 wr)) (fun t _ => L.length - (intOf t).toNat)
    case atStart => exact ⟨0, Nat.zero_le _, rfl, rfl, Below.refl _ _⟩
    case round =>
      obtain ⟨k, hk, rfl, HK, HB⟩ := hrel
      have hk0 : (0 : Int) ≤ (k : Int) := by omega
      obtain ⟨q0, q1⟩ := HC.out wr HB.out
      rcases Nat.lt_or_ge k L.length with h5 | h5
      · obtain ⟨x, hx⟩ : ∃ x, L[k]? = some x := ⟨_, List.getElem?_eq_getElem h5⟩
        obtain ⟨b, o, hbo, x0, x1, x2⟩ := (HL.out wr HB.out).at hx
        subst hbo
        have HMEM := Hid.mk' (List.mem_of_getElem? hx)
        have HTK : Hid (wiresB N (L.take (k + 1)) = wireB N x) := by
          show _ = _
          obtain ⟨hi, rfl⟩ := List.getElem?_eq_some_iff.1 hx
          rw [List.take_succ_eq_append_getElem hi, wiresB_snoc, HK.out, Bool.true_and]
        have HSH : Hid (wireB N x = false → nwE N L = 3) := fun h => by rw [HR.out, wiresB_no HMEM.out h]; rfl
        have hkI : (k : Int) < (L.length : Int) := by omega
        obtain ⟨xa, hxa⟩ : ∃ z, z = x.a := ⟨_, rfl⟩
        obtain ⟨xb, hxb⟩ : ∃ z, z = x.b := ⟨_, rfl⟩
        obtain ⟨xc, hxc⟩ : ∃ z, z = x.c := ⟨_, rfl⟩
        have HWB : Hid (wireB N x = (twoB N xa xb && (decide (1 ≤ xc) && decide (xc ≤ 1000)))) := by rw [hxa, hxb, hxc]; rfl
        rw [← hxa] at x0
        rw [← hxb] at x1
        rw [← hxc] at x2
        obtain ⟨W4, hW4⟩ : ∃ W4, W4 = wr.alloc (.cells #[.int .i64 xa, .int .i64 xb, .int .i64 xc] 48) := ⟨_, rfl⟩
        have hb4 : Below wr.heap.size wr W4 := by rw [hW4]; exact (Below.refl _ _).alloc (Nat.le_refl _) _
        have c0 : W4.cell? ⟨wr.heap.size, 0, none⟩ = some (.int .i64 xa) := by rw [hW4]; go_simp
        have c1 : W4.cell? ⟨wr.heap.size, 1, none⟩ = some (.int .i64 xb) := by rw [hW4]; go_simp
        have c2 : W4.cell? ⟨wr.heap.size, 2, none⟩ = some (.int .i64 xc) := by rw [hW4]; go_simp
        have HB4 := Hid.mk' (below_chain HB.out hb4)
        have HW4 := Hid.mk' hW4
        clear hb4 hW4 hx hxa hxb hxc
        go_upto_region 7 with fail
        rw [← HW4.out]
        clear x0 x1 x2 q0 q1
        obtain ⟨q0, q1⟩ := HC.out W4 HB4.out
        by_cases g0 : xa < 0
        · have g0d : decide (xa < 0) = true := decide_eq_true g0
          have HF := Hid.mk' (HSH.out (by rw [HWB.out]; unfold twoB; rw [decide_eq_false (show ¬ 0 ≤ xa by omega)]; rfl))
          clear g0
          go_wp2_with fail
          go_ret
          exact ⟨by rw [HF.out]; rfl, HEND.out _ HB4.out⟩
        · have g0d : decide (xa < 0) = false := decide_eq_false g0
          by_cases g1 : xb < 0
          · have g1d : decide (xb < 0) = true := decide_eq_true g1
            have HF := Hid.mk' (HSH.out (by rw [HWB.out]; unfold twoB; rw [decide_eq_false (show ¬ 0 ≤ xb by omega)]; simp))
            clear g1
            go_wp2_with fail
            go_ret
            exact ⟨by rw [HF.out]; rfl, HEND.out _ HB4.out⟩
          · have g1d : decide (xb < 0) = false := decide_eq_false g1
            by_cases g2 : N ≤ xa
            · have g2d : decide (N ≤ xa) = true := decide_eq_true g2
              have HF := Hid.mk' (HSH.out (by rw [HWB.out]; unfold twoB; rw [decide_eq_false (show ¬ xa < N by omega)]; simp))
              clear g2
              go_wp2_with fail
              go_ret
              exact ⟨by rw [HF.out]; rfl, HEND.out _ HB4.out⟩
            · have g2d : decide (N ≤ xa) = false := decide_eq_false g2
              by_cases g3 : N ≤ xb
              · have g3d : decide (N ≤ xb) = true := decide_eq_true g3
                have HF := Hid.mk' (HSH.out (by rw [HWB.out]; unfold twoB; rw [decide_eq_false (show ¬ xb < N by omega)]; simp))
                clear g3
                go_wp2_with fail
                go_ret
                exact ⟨by rw [HF.out]; rfl, HEND.out _ HB4.out⟩
              · have g3d : decide (N ≤ xb) = false := decide_eq_false g3
                by_cases g4 : xa = xb
                · have g4d : (xa == xb) = true := by simpa using g4
                  have HF := Hid.mk' (HSH.out (by rw [HWB.out]; unfold twoB; simp [g4]))
                  clear g4
                  go_wp2_with fail
                  go_ret
                  exact ⟨by rw [HF.out]; rfl, HEND.out _ HB4.out⟩
                · have g4d : (xa == xb) = false := by simpa using g4
                  by_cases g5 : xc < 1
                  · have g5d : decide (xc < 1) = true := decide_eq_true g5
                    have HF := Hid.mk' (HSH.out (by rw [HWB.out, decide_eq_false (show ¬ 1 ≤ xc by omega)]; simp))
                    clear g5
                    go_wp2_with fail
                    go_ret
                    exact ⟨by rw [HF.out]; rfl, HEND.out _ HB4.out⟩
                  · have g5d : decide (xc < 1) = false := decide_eq_false g5
                    by_cases g6 : 1000 < xc
                    · have g6d : decide (1000 < xc) = true := decide_eq_true g6
                      have HF := Hid.mk' (HSH.out (by rw [HWB.out, decide_eq_false (show ¬ xc ≤ 1000 by omega)]; simp))
                      clear g6
                      go_wp2_with fail
                      go_ret
                      exact ⟨by rw [HF.out]; rfl, HEND.out _ HB4.out⟩
                    · have g6d : decide (1000 < xc) = false := decide_eq_false g6
                      have HF : Hid (wiresB N (L.take (k + 1)) = true) := by
                        show _ = _
                        rw [HTK.out, HWB.out, decide_eq_true (show 1 ≤ xc by omega), decide_eq_true (show xc ≤ 1000 by omega)]
                        unfold twoB
                        rw [decide_eq_true (show 0 ≤ xa by omega), decide_eq_true (show xa < N by omega), decide_eq_true (show 0 ≤ xb by omega), decide_eq_true (show xb < N by omega)]
                        simp [g4]
                      clear g4
                      go_wp2_with fail
                      exact ⟨⟨k + 1, h5, by go_num, HF, HB4⟩, by simp [intOf]; omega⟩
      · obtain rfl : k = L.length := by omega
        rw [List.take_length] at HK
        obtain ⟨M, hM⟩ : ∃ M : Nat, N = (M : Int) := ⟨N.toNat, by have := HNB.out; omega⟩
        have hnb := HNB.out
        rw [hM] at hnb
        have hj := joinedTo_any M (.slice ad L.length cap) L wr (HL.out wr HB.out) hnb.2.2 (by omega) (by omega) (fun x hx => by have := wireB_parts (wiresB_mem HK.out x hx); rw [hM] at this; exact ⟨this.1, this.2.1, this.2.2.1, this.2.2.2.1, this.2.2.2.2.1⟩)
        rw [← hM] at hj
        have HR2 : Hid (nwE N L = if joinV L.length N L then 0 else 6) := by show _ = _; rw [HR.out, HK.out]; rfl
        generalize joinV L.length N L = J at *
        clear hM hnb
        go_wp2_with fail
        refine hj.mono ?_
        clear hj q0 q1
        rintro e w6 ⟨rfl, hb6⟩
        have HB6 := Hid.mk' (below_chain HB.out hb6)
        clear hb6
        cases J with
        | false =>
          have HF : Hid (nwE N L = 6) := by show _ = _; rw [HR2.out]; rfl
          go_wp2_with fail
          go_ret
          exact ⟨by rw [HF.out]; rfl, HEND.out _ HB6.out⟩
        | true =>
          have HF : Hid (nwE N L = 0) := by show _ = _; rw [HR2.out]; rfl
          go_wp2_with fail
          go_ret
          exact ⟨by rw [HF.out]; rfl, HEND.out _ HB6.out⟩
end Go.Proofs.YtlnhpkmcinohdaaDoor

/- The law's thin and net; the program's Short; SameNet. -/
namespace Go.Proofs.YtlnhpkmcinohdaaDoor
open Go.RowKit

theorem thin_any (N : Int) (ad : Option Addr) (n cap : Nat) (hn : n ≤ maxLen) (w : World) :
    Calls Tryd.prog 6 #[.agg #[.int .i64 N, .slice ad n cap]] w fun e w' => e = .returned (.bool (decide (n ≤ 100))) ∧ Below w.heap.size w w' := by
  unfold maxLen at hn
  by_cases h : n ≤ 100
  · rw [decide_eq_true h]
    go_enter Tryd.func6, Tryd.ntmps6
    go_wp2
    go_ret
    exact ⟨ret_bool (by simp; omega), (Below.refl _ _).alloc (Nat.le_refl _) _⟩
  · rw [decide_eq_false h]
    go_enter Tryd.func6, Tryd.ntmps6
    go_wp2
    go_ret
    exact ⟨ret_bool (by simp; omega), (Below.refl _ _).alloc (Nat.le_refl _) _⟩

set_option maxRecDepth 100000 in
set_option maxHeartbeats 8000000 in
theorem net_any (N : Int) (v : Value) (L : List Wr) (w : World) (h : WrAt w v L) (hl : L.length ≤ 1000) :
    Calls Tryd.prog 10 #[.agg #[.int .i64 N, v]] w fun e w' => ∃ v', e = .returned (.agg #[.int .i64 N, v']) ∧ WrAt w' v' L ∧ Below w.heap.size w w' := by
  obtain ⟨ad, cap, rfl⟩ := h.form
  have HL := Hid.mk' (fun (W : World) (hb : Below w.heap.size w W) => h.later hb)
  obtain ⟨i, hi', hi2⟩ := Option.map_eq_some_iff.1 Tryd.infoWire
  obtain ⟨hz, hsz, hby⟩ : i.zero = some (.agg #[.int .i64 0, .int .i64 0, .int .i64 0]) ∧ i.size = 3 ∧ i.bytes = 24 := by simpa using hi2
  have HINF := Hid.mk' (And.intro hi' (And.intro hz (And.intro hsz hby)))
  clear hi' hi2 hz hsz hby h
  obtain ⟨W3, hW3⟩ : ∃ W3, W3 = (((w.alloc (.cells #[.int .i64 N, .slice ad L.length cap] 24)).alloc (.cells #[.int .i64 0, .slice none 0 0] 34)).alloc (.cells #[.int .i64 N, .slice none 0 0] 34)) := ⟨_, rfl⟩
  have hR0 : RenAt 47 w W3 (w.heap.size + 3) (w.heap.size + 1 + 1) (w.heap.size + 1) N (.slice none 0 0) [] := by
    rw [hW3]
    refine ⟨(((Below.refl _ _).alloc (Nat.le_refl _) _).alloc (by simp) _).alloc (by simp; omega) _, by simp, ⟨by omega, by omega, by omega, by omega, by omega⟩, ?_, ?_, ?_, ?_, ?_, ⟨?_, ?_⟩, World.ownsRow_nil _ _ _ _⟩
    all_goals go_simp
  obtain ⟨bx, hbx⟩ : ∃ bx, bx = w.heap.size := ⟨_, rfl⟩
  have g0 : W3.cell? ⟨bx, 1, none⟩ = some (.slice ad L.length cap) := by rw [hW3, hbx]; go_simp
  have HBX : Hid (bx < w.heap.size + 1) := by show _ < _; omega
  have HR0 := Hid.mk' hR0
  clear hR0
  go_enter Tryd.func10, Tryd.ntmps10
  go_upto_region 2 with fail
  rw [← hW3]
  have HB3 : Hid (bx ≠ w.heap.size + 1 + 1 ∧ bx < w.heap.size + 3) := by show _ ∧ _; omega
  clear hW3
  generalize w.heap.size + 3 = B at *
  generalize w.heap.size + 1 + 1 = ob at *
  generalize w.heap.size + 1 = rb at *
  rw [← hbx]
  clear hbx
  have HG0 := Hid.mk' g0
  clear g0
  go_wp2_with fail
  go_loopw [4] (fun t wr => ∃ (k : Nat) (sv : Value), k ≤ L.length ∧ t = .int .i64 (k : Int) ∧ Hid (RenAt 47 w wr B ob rb N sv (L.take k)) ∧ Hid (wr.cell? ⟨bx, 1, none⟩ = some (.slice ad L.length cap))) (fun t _ => L.length - (intOf t).toNat)
  case atStart => exact ⟨0, _, Nat.zero_le _, rfl, HR0.out, HG0.out⟩
  case round =>
    clear HR0 HG0
    obtain ⟨k, sv, hk, rfl, HR, HG⟩ := hrel
    have g0 := HG.out
    rcases Nat.lt_or_ge k L.length with h5 | h5
    · obtain ⟨lt, hlt⟩ : ∃ lt, lt = L.take k := ⟨_, rfl⟩
      rw [← hlt] at HR
      obtain ⟨sa, sc, rfl⟩ := own_formW HR.out.own
      obtain ⟨x, hx⟩ : ∃ x, L[k]? = some x := ⟨_, List.getElem?_eq_getElem h5⟩
      obtain ⟨b, o, rfl, x0, x1, x2⟩ := (HL.out wr HR.out.below).at hx
      have HTK : Hid (L.take (k + 1) = lt ++ [x]) := by
        show _ = _
        rw [hlt]
        obtain ⟨hi, rfl⟩ := List.getElem?_eq_some_iff.1 hx
        exact List.take_succ_eq_append_getElem hi
      have hkI : (k : Int) < (L.length : Int) := by omega
      have hk0 : (0 : Int) ≤ (k : Int) := by omega
      have c1 := HR.out.c1
      have HKS : Hid (∀ W, Below wr.heap.size wr W → W.cell? ⟨bx, 1, none⟩ = some (.slice (some ⟨b, o, none⟩) L.length cap) ∧ W.cell? ⟨b, o + k * 3, none⟩ = some (.int .i64 x.a) ∧ W.cell? ⟨b, o + k * 3 + 1, none⟩ = some (.int .i64 x.b) ∧ W.cell? ⟨b, o + k * 3 + 2, none⟩ = some (.int .i64 x.c) ∧ W.cell? ⟨ob, 1, none⟩ = some (.slice sa lt.length sc)) := fun W hb => ⟨by rw [hb.cell (cell_lt g0)]; exact g0, by rw [hb.cell (cell_lt x0)]; exact x0, by rw [hb.cell (cell_lt x1)]; exact x1, by rw [hb.cell (cell_lt x2)]; exact x2, by rw [hb.cell (cell_lt c1)]; exact c1⟩
      have HSL : Hid (lt.length ≤ 1000) := by show _ ≤ _; rw [hlt, List.length_take]; omega
      have HXX := Hid.mk' hx
      have HRd := Hid.mk' (HR.out.later (Below.refl wr.heap.size wr).drew)
      have hcur : Below wr.heap.size wr wr.drew := (Below.refl _ _).drew
      have HBXl : Hid (bx < wr.heap.size) := cell_lt g0
      clear hlt hx HR HG x0 x1 x2 c1
      go_wp2_with fail
      clear g0
      refine region_but_last (n := 24) (S := fun W => W.cell? ⟨bx, 1, none⟩ = some (.slice (some ⟨b, o, none⟩) L.length cap) ∧ W.cell? ⟨b, o + k * 3, none⟩ = some (.int .i64 x.a) ∧ W.cell? ⟨b, o + k * 3 + 1, none⟩ = some (.int .i64 x.b) ∧ W.cell? ⟨b, o + k * 3 + 2, none⟩ = some (.int .i64 x.c) ∧ W.cell? ⟨ob, 1, none⟩ = some (.slice sa lt.length sc)) (by kernel_rfl) (by kernel_rfl) (by kernel_rfl) (HKS.out _ hcur) (fun hHeld => ?_)
      have HKD := Hid.mk' (fun (W : World) (hb : Below wr.drew.heap.size wr.drew W) => HKS.out W (below_chain hcur hb))
      generalize wr.drew = Wd at *
      refine wpAnyH_take (i := 0) (v := ?v0) rfl (by kernel_rfl) (by kernel_rfl) (by kernel_rfl) (fun _ _ _ h => h) (Or.inl ⟨by rfl, ?hy0⟩) (by assumption) ?rest0
      case hy0 => (intro w hSw; (try dsimp only at hSw); go_simp <;> (try with_reducible rfl))
      simp only [Act.put]
      refine wpAnyH_take (i := 1) (v := ?v1) rfl (by kernel_rfl) (by kernel_rfl) (by kernel_rfl) (fun _ _ _ h => h) (Or.inl ⟨by rfl, ?hy1⟩) (by assumption) ?rest1
      case hy1 => (intro w hSw; (try dsimp only at hSw); go_simp <;> (try with_reducible rfl))
      simp only [Act.put]
      refine wpAnyH_take (i := 2) (v := ?v2) rfl (by kernel_rfl) (by kernel_rfl) (by kernel_rfl) (fun _ _ _ h => h) (Or.inl ⟨by rfl, ?hy2⟩) (by assumption) ?rest2
      case hy2 => (intro w hSw; (try dsimp only at hSw); go_simp <;> (try with_reducible rfl))
      simp only [Act.put]
      refine wpAnyH_take (i := 3) (v := ?v3) rfl (by kernel_rfl) (by kernel_rfl) (by kernel_rfl) (fun _ _ _ h => h) (Or.inl ⟨by rfl, ?hy3⟩) (by assumption) ?rest3
      case hy3 => (intro w hSw; (try dsimp only at hSw); go_simp <;> (try with_reducible rfl))
      simp only [Act.put]
      refine wpAnyH_take (i := 4) (v := ?v4) rfl (by kernel_rfl) (by kernel_rfl) (by kernel_rfl) (fun _ _ _ h => h) (Or.inl ⟨by rfl, ?hy4⟩) (by assumption) ?rest4
      case hy4 => (intro w hSw; (try dsimp only at hSw); go_simp <;> (try with_reducible rfl))
      simp only [Act.put]
      refine wpAnyH_take (i := 5) (v := ?v5) rfl (by kernel_rfl) (by kernel_rfl) (by kernel_rfl) (fun _ _ _ h => h) (Or.inl ⟨by rfl, ?hy5⟩) (by assumption) ?rest5
      case hy5 => (intro w hSw; (try dsimp only at hSw); go_simp <;> (try with_reducible rfl))
      simp only [Act.put]
      refine wpAnyH_take (i := 6) (v := ?v6) rfl (by kernel_rfl) (by kernel_rfl) (by kernel_rfl) (fun _ _ _ h => h) (Or.inl ⟨by rfl, ?hy6⟩) (by assumption) ?rest6
      case hy6 => (intro w hSw; (try dsimp only at hSw); go_simp <;> (try with_reducible rfl))
      simp only [Act.put]
      refine wpAnyH_take (i := 7) (v := ?v7) rfl (by kernel_rfl) (by kernel_rfl) (by kernel_rfl) (fun _ _ _ h => h) (Or.inl ⟨by rfl, ?hy7⟩) (by assumption) ?rest7
      case hy7 => (intro w hSw; (try dsimp only at hSw); go_simp <;> (try with_reducible rfl))
      simp only [Act.put]
      refine wpAnyH_take (i := 8) (v := ?v8) rfl (by kernel_rfl) (by kernel_rfl) (by kernel_rfl) (fun _ _ _ h => h) (Or.inl ⟨by rfl, ?hy8⟩) (by assumption) ?rest8
      case hy8 => (intro w hSw; (try dsimp only at hSw); go_simp <;> (try with_reducible rfl))
      simp only [Act.put]
      refine wpAnyH_take (i := 9) (v := ?v9) rfl (by kernel_rfl) (by kernel_rfl) (by kernel_rfl) (fun _ _ _ h => h) (Or.inl ⟨by rfl, ?hy9⟩) (by assumption) ?rest9
      case hy9 => (intro w hSw; (try dsimp only at hSw); go_simp <;> (try with_reducible rfl))
      simp only [Act.put]
      refine wpAnyH_take (i := 10) (v := ?v10) rfl (by kernel_rfl) (by kernel_rfl) (by kernel_rfl) (fun _ _ _ h => h) (Or.inl ⟨by rfl, ?hy10⟩) (by assumption) ?rest10
      case hy10 => (intro w hSw; (try dsimp only at hSw); go_simp <;> (try with_reducible rfl))
      simp only [Act.put]
      refine wpAnyH_take (i := 11) (v := ?v11) rfl (by kernel_rfl) (by kernel_rfl) (by kernel_rfl) (fun _ _ _ h => h) (Or.inl ⟨by rfl, ?hy11⟩) (by assumption) ?rest11
      case hy11 => (intro w hSw; (try dsimp only at hSw); go_simp <;> (try with_reducible rfl))
      simp only [Act.put]
      refine wpAnyH_take (i := 12) (v := ?v12) rfl (by kernel_rfl) (by kernel_rfl) (by kernel_rfl) (fun _ _ _ h => h) (Or.inl ⟨by rfl, ?hy12⟩) (by assumption) ?rest12
      case hy12 => (intro w hSw; (try dsimp only at hSw); go_simp <;> (try with_reducible rfl))
      simp only [Act.put]
      refine wpAnyH_take (i := 13) (v := ?v13) rfl (by kernel_rfl) (by kernel_rfl) (by kernel_rfl) (fun _ _ _ h => h) (Or.inl ⟨by rfl, ?hy13⟩) (by assumption) ?rest13
      case hy13 => (intro w hSw; (try dsimp only at hSw); go_simp <;> (try with_reducible rfl))
      simp only [Act.put]
      refine wpAnyH_take (i := 14) (v := ?v14) rfl (by kernel_rfl) (by kernel_rfl) (by kernel_rfl) (fun _ _ _ h => h) (Or.inl ⟨by rfl, ?hy14⟩) (by assumption) ?rest14
      case hy14 => (intro w hSw; (try dsimp only at hSw); go_simp <;> (try with_reducible rfl))
      simp only [Act.put]
      refine wpAnyH_take (i := 15) (v := ?v15) rfl (by kernel_rfl) (by kernel_rfl) (by kernel_rfl) (fun _ _ _ h => h) (Or.inl ⟨by rfl, ?hy15⟩) (by assumption) ?rest15
      case hy15 => (intro w hSw; (try dsimp only at hSw); go_simp <;> (try with_reducible rfl))
      simp only [Act.put]
      refine wpAnyH_take (i := 16) (v := ?v16) rfl (by kernel_rfl) (by kernel_rfl) (by kernel_rfl) (fun _ _ _ h => h) (Or.inl ⟨by rfl, ?hy16⟩) (by assumption) ?rest16
      case hy16 => (intro w hSw; (try dsimp only at hSw); go_simp <;> (try with_reducible rfl))
      simp only [Act.put]
      refine wpAnyH_take (i := 17) (v := ?v17) rfl (by kernel_rfl) (by kernel_rfl) (by kernel_rfl) (fun _ _ _ h => h) (Or.inl ⟨by rfl, ?hy17⟩) (by assumption) ?rest17
      case hy17 => (intro w hSw; (try dsimp only at hSw); go_simp <;> (try with_reducible rfl))
      simp only [Act.put]
      refine wpAnyH_take (i := 18) (v := ?v18) rfl (by kernel_rfl) (by kernel_rfl) (by kernel_rfl) (fun _ _ _ h => h) (Or.inl ⟨by rfl, ?hy18⟩) (by assumption) ?rest18
      case hy18 => (intro w hSw; (try dsimp only at hSw); go_simp <;> (try with_reducible rfl))
      simp only [Act.put]
      refine wpAnyH_take (i := 19) (v := ?v19) rfl (by kernel_rfl) (by kernel_rfl) (by kernel_rfl) (fun _ _ _ h => h) (Or.inl ⟨by rfl, ?hy19⟩) (by assumption) ?rest19
      case hy19 => (intro w hSw; (try dsimp only at hSw); go_simp <;> (try with_reducible rfl))
      simp only [Act.put]
      refine wpAnyH_take (i := 20) (v := ?v20) rfl (by kernel_rfl) (by kernel_rfl) (by kernel_rfl) (fun _ _ _ h => h) (Or.inl ⟨by rfl, ?hy20⟩) (by assumption) ?rest20
      case hy20 => (intro w hSw; (try dsimp only at hSw); go_simp <;> (try with_reducible rfl))
      simp only [Act.put]
      refine wpAnyH_ready (rs := [21]) (by kernel_rfl) (by simp) ?_
      refine AllReadyH.cons rfl (fun K hK => ?_) AllReadyH.nil
      go_simp
      have hba : Below Wd.heap.size Wd (Wd.alloc (.cells #[.int .i64 x.a, .int .i64 x.b, .int .i64 x.c] 47)) := (Below.refl _ _).alloc (Nat.le_refl _) _
      have HRa := Hid.mk' (HRd.out.later hba)
      have HNW := Hid.mk' (three_newW Wd (.int .i64 x.a) (.int .i64 x.b) (.int .i64 x.c) 47)
      have HSa := Hid.mk' (HKD.out _ hba)
      refine hK.out _ _ HSa.out (fun hHeld => ?_)
      have HKA := Hid.mk' (fun (W : World) (hb : Below (Wd.alloc (.cells #[.int .i64 x.a, .int .i64 x.b, .int .i64 x.c] 47)).heap.size (Wd.alloc (.cells #[.int .i64 x.a, .int .i64 x.b, .int .i64 x.c] 47)) W) => HKD.out W (below_chain hba hb))
      clear hK K hba HRd HKD
      generalize Wd.alloc (.cells #[.int .i64 x.a, .int .i64 x.b, .int .i64 x.c] 47) = Wa at *
      generalize Wd.heap.size = nb at *
      have hsz := HRa.out.hB
      refine wpAnyH_ready (rs := [22]) (by kernel_rfl) (by simp) ?_
      refine AllReadyH.cons rfl (fun K hK => ?_) AllReadyH.nil
      refine step_append_lies _ rfl _ _ _ rfl B 47 i _ 3 24 Tryd.underlying32 HINF.out.1 HINF.out.2.1 HINF.out.2.2.1 HINF.out.2.2.2 rfl (by omega) (.slice sa lt.length sc) lt.length (wrsC lt) (by rfl) HRa.out.own ⟨nb, 0, none⟩ 1 1 [.int .i64 x.a, .int .i64 x.b, .int .i64 x.c] rfl rfl HNW.out (by simp [Value.oneCell']) (by omega) (by have := HSL.out; unfold maxLen; omega) (by have := HSL.out; omega) hsz _ rfl ?_
      intro g' cap' w9 hown9 hgrow9 hat9 hlt9
      obtain ⟨p0, p1, pf, hR9⟩ := HRa.out.push x hgrow9 hown9
      have HR9 := Hid.mk' hR9
      have hblk : ∀ q, q < B → w9.heap[q]? = Wa.heap[q]? := fun q hq => hgrow9.block q (Nat.lt_of_lt_of_le hq hsz) (fun e => by have := (own_geW HRa.out.own e.symm).1; omega)
      have hg9 : w9.cell? ⟨bx, 1, none⟩ = some (.slice (some ⟨b, o, none⟩) L.length cap) := by rw [World.cell?_of_block (a := ⟨bx, 1, none⟩) (hblk bx HB3.out.2)]; exact HSa.out.1
      obtain ⟨b', o', e', y0, y1, y2⟩ := (HL.out w9 (HRa.out.below.grown hgrow9 HRa.out.below.size (fun q hq => by have := (own_geW HRa.out.own hq).1; have := HRa.out.lt; omega))).at (show L[k]? = some x from HXX.out)
      obtain ⟨rfl, rfl⟩ : b = b' ∧ o = o' := by simpa using e'
      refine hK.out _ _ ⟨hg9, y0, y1, y2, p1⟩ (fun hHeld => ?_)
      have HG9 : Hid ((w9.setCell ⟨ob, 1, none⟩ (.slice (some ⟨g', 0, none⟩) (lt.length + 1) cap')).cell? ⟨bx, 1, none⟩ = some (.slice (some ⟨b, o, none⟩) L.length cap)) := by show _ = _; rw [World.cell?_setCell_other _ _ _ _ (fun e => HB3.out.1 (congrArg Addr.block e).symm)]; exact hg9
      clear hK K hown9 hgrow9 hat9 hlt9 hR9 hblk y0 y1 y2 hg9 HKA HSa HNW e'
      simp only [Act.put, List.getElem_toArray, List.getElem_cons_succ, List.getElem_cons_zero, List.setIfInBounds_toArray, List.set_cons_succ, List.set_cons_zero]
      refine wpAnyH_take (i := 23) (v := ?v23) rfl (by kernel_rfl) (by kernel_rfl) (by kernel_rfl) (fun _ _ _ h => h) (Or.inl ⟨by rfl, ?hy23⟩) (by assumption) ?rest23
      case hy23 => (intro w hSw; (try dsimp only at hSw); go_simp <;> (try with_reducible rfl))
      simp only [Act.put]
      refine wpAnyH_done (by kernel_rfl) ?_ _
      refine ahead_last rfl (fun K hK => ?_)
      go_simp
      refine hK _ _ ?_
      clear hK K
      go_wp2_with fail
      exact ⟨⟨k + 1, _, h5, by go_num, by show RenAt _ _ _ _ _ _ _ _ _; rw [HTK.out]; exact HR9.out, HG9.out⟩, by simp [intOf]; omega⟩
    · obtain rfl : k = L.length := by omega
      rw [List.take_length] at HR
      obtain ⟨sa, sc, hse⟩ := own_formW HR.out.own
      subst hse
      obtain ⟨f1, f2, f3, f4, f5, f6⟩ := HR.out.fin
      have q0 := HR.out.c0
      have q1 := HR.out.c1
      have q2 := HR.out.r0
      have q4 := HR.out.rz.1
      have q5 := HR.out.rz.2
      have HF := Hid.mk' (And.intro f1 f2)
      have HF4 := Hid.mk' (And.intro f4 f5)
      clear f1 f2 f4 f5 f6 HR
      go_wp2_with fail
      exact bodyPost_ret (v := .agg #[.int .i64 N, .slice sa L.length sc]) (by simp [results, Tryd.results10, go_sem, HF4.out.1, HF4.out.2]) rfl ⟨_, rfl, HF.out.1, HF.out.2⟩
end Go.Proofs.YtlnhpkmcinohdaaDoor
