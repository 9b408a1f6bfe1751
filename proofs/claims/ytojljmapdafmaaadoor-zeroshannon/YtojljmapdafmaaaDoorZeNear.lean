/- zero.near: of each vertex those that have an edge with it, and itself. -/
import Derived.Test.YtojljmapdafmaaaDoorZeSet
import Derived.Test.YtojljmapdafmaaaDoorZeEnum
import Derived.Test.YtojljmapdafmaaaDoorFills
import Derived.Test.YtojljmapdafmaaaDoorGrid
import Derived.Deep.RegionHeld3
namespace Go.Proofs.YtojljmapdafmaaaDoor
open Go.RowKit

theorem Tryd.infoSet : (Tryd.prog.info? 77).map (fun i => (i.zero, i.size, i.bytes)) = some (some (.int .u64 0), 1, 8) := by kernel_rfl

/-- Those that have an edge with a vertex, by the first k edges, and itself. -/
def nrB (p q : Nat → Nat) : Nat → Nat → Nat
  | 0, v => 2 ^ v
  | k + 1, v => if v = q k then nrB p q k v ||| 2 ^ p k else if v = p k then nrB p q k v ||| 2 ^ q k else nrB p q k v
/-- Have two an edge, among the first m? -/
def joinB (p q : Nat → Nat) (m a b : Nat) : Bool := (List.range m).any fun k => (p k == a && q k == b) || (p k == b && q k == a)
theorem joinB_iff {p q : Nat → Nat} {m a b : Nat} : joinB p q m a b = true ↔ ∃ k, k < m ∧ ((p k = a ∧ q k = b) ∨ (p k = b ∧ q k = a)) := by
  simp [joinB]
theorem joinB_symm (p q : Nat → Nat) (m a b : Nat) : joinB p q m a b = joinB p q m b a := by
  rw [Bool.eq_iff_iff, joinB_iff, joinB_iff]
  constructor <;> (rintro ⟨k, hk, h⟩; exact ⟨k, hk, h.symm⟩)
theorem nrB_test (p q : Nat → Nat) : ∀ (m v i : Nat), (∀ k, k < m → p k < q k) → (nrB p q m v).testBit i = (decide (i = v) || joinB p q m v i)
  | 0, v, i, _ => by
    rw [nrB, Nat.testBit_two_pow]
    simp [joinB, eq_comm]
  | m + 1, v, i, h => by
    have ih := nrB_test p q m v i (fun k hk => h k (by omega))
    have hm := h m (by omega)
    have hj : joinB p q (m + 1) v i = (joinB p q m v i || ((p m == v && q m == i) || (p m == i && q m == v))) := by
      simp [joinB, List.range_succ]
    rw [nrB, hj]
    by_cases h1 : v = q m
    · rw [if_pos h1, Nat.testBit_or, Nat.testBit_two_pow, ih, Bool.or_assoc]
      congr 2
      subst h1
      rw [Bool.eq_iff_iff]
      simp
      omega
    · rw [if_neg h1]
      by_cases h2 : v = p m
      · rw [if_pos h2, Nat.testBit_or, Nat.testBit_two_pow, ih, Bool.or_assoc]
        congr 2
        subst h2
        rw [Bool.eq_iff_iff]
        simp
        omega
      · rw [if_neg h2, ih]
        have e : ((p m == v && q m == i) || (p m == i && q m == v)) = false := by
          simp
          omega
        rw [e, Bool.or_false]
theorem nrB_lt (p q : Nat → Nat) : ∀ (m v n : Nat), v < n → (∀ k, k < m → p k < n ∧ q k < n) → nrB p q m v < 2 ^ n
  | 0, v, n, hv, _ => Nat.pow_lt_pow_right (by decide) hv
  | m + 1, v, n, hv, h => by
    have ih := nrB_lt p q m v n hv (fun k hk => h k (by omega))
    have hm := h m (by omega)
    unfold nrB
    split
    · exact Nat.or_lt_two_pow ih (Nat.pow_lt_pow_right (by decide) hm.1)
    · split
      · exact Nat.or_lt_two_pow ih (Nat.pow_lt_pow_right (by decide) hm.2)
      · exact ih

/-- A row of sets that is made and filled. -/
structure FilU (w wr : World) (g T : Nat) (f : Nat → Nat) : Prop where
  row : ∀ i, i < T → wr.cell? ⟨g, i, none⟩ = some (.int .u64 (f i : Nat))
  fz : ∀ i, i < T → wr.frozen? ⟨g, i, none⟩ = false
  below : Below w.heap.size w wr
  hg : w.heap.size ≤ g
  lt : g < wr.heap.size
theorem FilU.set {w wr : World} {g T : Nat} {f : Nat → Nat} (h : FilU w wr g T f) {j : Nat} (hj : j < T) (x : Nat) {f' : Nat → Nat} (hf : ∀ i, i < T → f' i = if i = j then x else f i) : FilU w (wr.setCell ⟨g, j, none⟩ (.int .u64 (x : Nat))) g T f' := by
  refine ⟨fun i hi => ?_, fun i hi => ?_, h.below.setCell h.hg _, h.hg, by rw [World.size_setCell]; exact h.lt⟩
  · rw [hf i hi]
    by_cases hij : i = j
    · subst hij
      rw [if_pos rfl]
      exact World.cell?_setCell_same _ _ _ (h.row i hi)
    · rw [if_neg hij, World.cell?_setCell_other _ _ _ _ (fun e => hij (by have := congrArg Addr.off e; simpa using this.symm))]
      exact h.row i hi
  · rw [World.frozen?_setCell]
    exact h.fz i hi
theorem FilU.later {w wr w' : World} {g T : Nat} {f : Nat → Nat} (h : FilU w wr g T f) (hb : Below wr.heap.size wr w') : FilU w w' g T f :=
  ⟨fun i hi => by rw [hb.cell (p := ⟨g, i, none⟩) h.lt]; exact h.row i hi, fun i hi => by rw [hb.frozen (p := ⟨g, i, none⟩) h.lt]; exact h.fz i hi, h.below.trans (hb.mono h.below.size), h.hg, Nat.lt_of_lt_of_le h.lt hb.size⟩
theorem FilU.congr {w wr : World} {g T : Nat} {f f' : Nat → Nat} (h : FilU w wr g T f) (hf : ∀ i, i < T → f' i = f i) : FilU w wr g T f' := ⟨fun i hi => by rw [hf i hi]; exact h.row i hi, h.fz, h.below, h.hg, h.lt⟩
theorem filU_made {w w1 w2 : World} {g n : Nat} {t : TypeId} {xs : List Value} (h : w2.ownsRow w1.heap.size t 1 (.slice (some ⟨g, 0, none⟩) n n) n xs) (hx : ∀ i, i < n → xs[i]? = some (.int .u64 0)) (hg : w1.grownBy w2 none) (hw : Below w.heap.size w w1) : FilU w w2 g n (fun _ => 0) := by
  obtain ⟨hl, hr⟩ := h
  rcases hr with ⟨hx, _⟩ | ⟨g', cap', cur, hv, hb, hh, _, _, hs, ht⟩
  · cases hx
  · obtain ⟨rfl, rfl⟩ : g = g' ∧ n = cap' := by simpa using hv
    refine ⟨fun i hi => ?_, fun i hi => ?_, hw.grown hg hw.size (fun k hk => by cases hk), Nat.le_trans hw.size hb, heap_lt hh⟩
    · show _ = some (Value.int .u64 ((0 : Nat) : Int))
      rw [show (((0 : Nat) : Int)) = 0 from rfl, ← hx i hi, ← ht, List.getElem?_take_of_lt (by omega)]
      simp [World.cell?, hh]
    · simp [World.frozen?, hh]
theorem made_zeroU (n i : Nat) (hi : i < n) : (madeCells (Value.int IntKind.u64 0).cells (n * 1)).toList[i]? = some (.int .u64 0) := by
  simp [madeCells, hi, Nat.mod_one, Value.cells]

/-- The edges in memory. -/
def EdAt (w : World) (v : Value) (m : Nat) (p q : Nat → Int) : Prop := ∃ ad cap, v = .slice ad m cap ∧ (m = 0 ∨ ∃ b o, ad = some ⟨b, o, none⟩ ∧ TermsAt w b o m p q)
theorem EdAt.later {w w' : World} {v : Value} {m : Nat} {p q : Nat → Int} (h : EdAt w v m p q) (hb : Below w.heap.size w w') : EdAt w' v m p q := by
  obtain ⟨ad, cap, rfl, h⟩ := h
  refine ⟨ad, cap, rfl, h.imp id ?_⟩
  rintro ⟨b, o, rfl, ht⟩
  exact ⟨b, o, rfl, fun k hk => ⟨by rw [hb.cell (cell_lt (ht k hk).1)]; exact (ht k hk).1, by rw [hb.cell (cell_lt (ht k hk).2)]; exact (ht k hk).2⟩⟩
/-- An edge of a list that has one. -/
theorem EdAt.at {w : World} {ad : Option Addr} {m cap : Nat} {p q : Nat → Int} (h : EdAt w (.slice ad m cap) m p q) {k : Nat} (hk : k < m) : ∃ b o, ad = some ⟨b, o, none⟩ ∧ TermsAt w b o m p q := by
  obtain ⟨ad', cap', e, h⟩ := h
  obtain ⟨rfl, rfl⟩ : ad = ad' ∧ cap = cap' := by simpa using e
  rcases h with h | h
  · omega
  · exact h

set_option maxRecDepth 100000 in
set_option maxHeartbeats 4000000 in
theorem near_any (n m : Nat) (ev : Value) (p q : Nat → Nat) (w : World) (hE : EdAt w ev m (fun i => (p i : Int)) (fun i => (q i : Int))) (hn : n ≤ 16) (hm : m ≤ 1000) (hpq : ∀ k, k < m → p k < q k ∧ q k < n) :
    Calls Tryd.prog 43 #[.agg #[.int .i64 n, ev]] w fun e w' => ∃ g, e = .returned (.slice (some ⟨g, 0, none⟩) n n) ∧ FilU w w' g n (nrB p q m) := by
  obtain ⟨i0, hi, hz0, hz1, hz2⟩ := info_parts Tryd.infoSet
  have HINF : Hid (Tryd.prog.info? 77 = some i0 ∧ i0.zero = some (.int .u64 0) ∧ i0.size = 1 ∧ i0.bytes = 8) := ⟨hi, hz0, hz1, hz2⟩
  clear hi hz0 hz1 hz2
  obtain ⟨ad, cap, rfl, -⟩ := id hE
  have HE := Hid.mk' hE
  have HPQ := Hid.mk' hpq
  have hnI : (n : Int) ≤ 16 := by omega
  have hn0 : (0 : Int) ≤ (n : Int) := by omega
  have hmI : (m : Int) ≤ 1000 := by omega
  clear hE hpq
  obtain ⟨w1, hw1⟩ : ∃ w1, w1 = w.alloc (.cells #[.int .i64 n, .slice ad m cap] 33) := ⟨_, rfl⟩
  have hb1 : Below w.heap.size w w1 := by rw [hw1]; exact (Below.refl _ _).alloc (Nat.le_refl _) _
  have hc1 : w1.cell? ⟨w.heap.size, 1, none⟩ = some (.slice ad m cap) := by rw [hw1]; go_simp
  have HB1 := Hid.mk' hb1
  have HC1 : Hid (∀ W, Below w1.heap.size w1 W → W.cell? ⟨w.heap.size, 1, none⟩ = some (.slice ad m cap)) := fun W hb => by rw [hb.cell (cell_lt hc1)]; exact hc1
  have HE1 := Hid.mk' (HE.out.later hb1)
  have HW1 := Hid.mk' hw1
  clear hb1 hc1 HE hw1
  go_enter Tryd.func43, Tryd.ntmps43
  go_wp2_with (at_make; rw [← HW1.out]; go_must (refine wpList_make_full _ rfl _ _ _ rfl w1.heap.size 77 i0 _ 1 Tryd.underlying74 HINF.out.1 HINF.out.2.1 HINF.out.2.2.1 .i64 .i64 _ _ n rfl rfl rfl rfl (by rw [HINF.out.2.2.2]; omega) (by unfold maxLen; omega) (Nat.le_refl _) ?_; intro w2 hown2 hgrow2; have HF2 := Hid.mk' (filU_made hown2 (made_zeroU n) hgrow2 (Below.refl _ _)); clear hown2 hgrow2))
  go_loopw [12] (fun i wr => ∃ k : Nat, k ≤ n ∧ i = .int .i64 k ∧ Hid (FilU w1 wr w1.heap.size n (fun i => if i < k then 2 ^ i else 0))) (fun i _ => n - (intOf i).toNat)
  case atStart => exact ⟨0, Nat.zero_le _, rfl, HF2⟩
  case round =>
    clear HF2
    obtain ⟨k, hk, rfl, HF⟩ := hrel
    have hk0 : (0 : Int) ≤ (k : Int) := by omega
    rcases Nat.lt_or_ge k n with h1 | h1
    · have hkn : (k : Int) < (n : Int) := by omega
      have hs := shl_one (show k < 64 by omega)
      have ck := HF.out.row k h1
      have fk := HF.out.fz k h1
      have HN := Hid.mk' (HF.out.set h1 (2 ^ k) (f' := fun i => if i < k + 1 then 2 ^ i else 0) (fun i _ => by
        by_cases e : i = k
        · subst e; simp
        · rw [if_neg e]
          by_cases e2 : i < k
          · rw [if_pos (by omega), if_pos e2]
          · rw [if_neg (by omega), if_neg e2]))
      generalize hP : 2 ^ k = P at hs HN
      clear hP
      go_wp2_with fail
      exact ⟨⟨k + 1, h1, by go_num, HN⟩, by simp [intOf]; omega⟩
    · obtain rfl : k = n := by omega
      have HF0 : Hid (FilU w1 wr w1.heap.size k (nrB p q 0)) := HF.out.congr fun i hi => by simp [nrB, hi]
      have hc1 := HC1.out _ HF.out.below
      clear HF
      go_wp2_with fail
      clear hc1 h1 hk hk0
      go_loopw [24] (fun i wr => ∃ j : Nat, j ≤ m ∧ i = .int .i64 j ∧ Hid (FilU w1 wr w1.heap.size k (nrB p q j))) (fun i _ => m - (intOf i).toNat)
      case atStart => exact ⟨0, Nat.zero_le _, rfl, HF0⟩
      case round =>
        clear HF0
        obtain ⟨j, hj, rfl, HF⟩ := hrel
        have hj0 : (0 : Int) ≤ (j : Int) := by omega
        rcases Nat.lt_or_ge j m with h1 | h1
        · have hjm : (j : Int) < (m : Int) := by omega
          obtain ⟨hpq, hq⟩ := HPQ.out j h1
          obtain ⟨b, o, rfl, hT⟩ := HE1.out.at h1
          have hTj := hT j h1
          have e0 : wr.cell? ⟨b, o + j * 2, none⟩ = some (.int .i64 (p j : Int)) := by rw [HF.out.below.cell (cell_lt hTj.1)]; exact hTj.1
          have e1 : wr.cell? ⟨b, o + j * 2 + 1, none⟩ = some (.int .i64 (q j : Int)) := by rw [HF.out.below.cell (cell_lt hTj.2)]; exact hTj.2
          have HPK : Hid (p j < k) := Nat.lt_trans hpq hq
          have hwa : Below wr.heap.size wr (wr.alloc (.cells #[.int .i64 (p j : Int), .int .i64 (q j : Int)] 51)) := (Below.refl _ _).alloc (Nat.le_refl _) _
          have c0 : (wr.alloc (.cells #[.int .i64 (p j : Int), .int .i64 (q j : Int)] 51)).cell? ⟨wr.heap.size, 0, none⟩ = some (.int .i64 (p j : Int)) := by go_simp
          have c1 : (wr.alloc (.cells #[.int .i64 (p j : Int), .int .i64 (q j : Int)] 51)).cell? ⟨wr.heap.size, 1, none⟩ = some (.int .i64 (q j : Int)) := by go_simp
          have HFa := Hid.mk' (HF.out.later hwa)
          have HNE : Hid (w1.heap.size < wr.heap.size) := HF.out.lt
          have HCC := Hid.mk' (And.intro c0 c1)
          have HPQ2 := Hid.mk' (And.intro hpq hq)
          clear hT hTj hwa c0 c1 hpq hq
          go_wp2_with fail
          clear e0 e1 HF
          generalize wr.alloc (.cells #[.int .i64 (p j : Int), .int .i64 (q j : Int)] 51) = Wa at *
          generalize wr.heap.size = E0 at *
          obtain ⟨c0, c1⟩ := HCC.out
          have hpj0 : (0 : Int) ≤ (p j : Int) := by omega
          have hqj0 : (0 : Int) ≤ (q j : Int) := by omega
          have hpjk : (p j : Int) < (k : Int) := by have := HPK.out; omega
          have hqjk : (q j : Int) < (k : Int) := by have := HPQ2.out; omega
          have hp64 : p j < 64 := by have := HPK.out; omega
          have hq64 : q j < 64 := by have := HPQ2.out; omega
          have cp := HFa.out.row (p j) HPK.out
          have fp := HFa.out.fz (p j) HPK.out
          have hs := shl_one hq64
          have hor : bits .or .u64 ((nrB p q j (p j) : Nat) : Int) ((2 ^ q j : Nat) : Int) = ((nrB p q j (p j) ||| 2 ^ q j : Nat) : Int) := u64_or_nat _ _ (nrB_lt p q j (p j) 64 hp64 (fun i hi => by have := HPQ.out i (by omega); omega)) (Nat.pow_lt_pow_right (a := 2) (n := 64) (by decide) hq64)
          have HS1 := Hid.mk' ((HFa.out.set HPK.out (nrB p q j (p j) ||| 2 ^ q j) (f' := fun i => if i = p j then nrB p q j (p j) ||| 2 ^ q j else nrB p q j i) (fun i _ => rfl)).later (Below.refl _ _).drew)
          have HCD : Hid (∀ x, ((Wa.setCell ⟨w1.heap.size, p j, none⟩ x).drew).cell? ⟨E0, 0, none⟩ = some (.int .i64 (p j : Int)) ∧ ((Wa.setCell ⟨w1.heap.size, p j, none⟩ x).drew).cell? ⟨E0, 1, none⟩ = some (.int .i64 (q j : Int))) := fun x => by
            have hne := HNE.out
            constructor
            · show (Wa.setCell _ _).cell? _ = _
              rw [World.cell?_setCell_other _ _ _ _ (fun e => by have := congrArg Addr.block e; simp at this; omega)]; exact c0
            · show (Wa.setCell _ _).cell? _ = _
              rw [World.cell?_setCell_other _ _ _ _ (fun e => by have := congrArg Addr.block e; simp at this; omega)]; exact c1
          have HVAL : Hid (∀ i, nrB p q (j + 1) i = if i = q j then nrB p q j (q j) ||| 2 ^ p j else if i = p j then nrB p q j (p j) ||| 2 ^ q j else nrB p q j i) := fun i => by
            rw [nrB]
            split
            · rename_i e; rw [e]
            · split
              · rename_i e; rw [e]
              · rfl
          generalize 2 ^ q j = P at hs hor HS1 HVAL
          generalize nrB p q j (p j) = X at *
          generalize hX2 : X ||| P = X2 at *
          clear hX2
          go_region
          clear c0 c1 cp fp hs hor HCC HFa
          have HCC := HCD.out (.int .u64 (X2 : Nat))
          clear HCD
          generalize (Wa.setCell ⟨w1.heap.size, p j, none⟩ (.int .u64 (X2 : Nat))).drew = Wb at *
          have hc0 := HCC.1
          have hc1 := HCC.2
          have HCC := Hid.mk' HCC
          have cq := HS1.out.row (q j) HPQ2.out.2
          have fq := HS1.out.fz (q j) HPQ2.out.2
          rw [if_neg (by have := HPQ2.out; omega)] at cq
          have hs := shl_one hp64
          have hor : bits .or .u64 ((nrB p q j (q j) : Nat) : Int) ((2 ^ p j : Nat) : Int) = ((nrB p q j (q j) ||| 2 ^ p j : Nat) : Int) := u64_or_nat _ _ (nrB_lt p q j (q j) 64 hq64 (fun i hi => by have := HPQ.out i (by omega); omega)) (Nat.pow_lt_pow_right (a := 2) (n := 64) (by decide) hp64)
          have HS2 := Hid.mk' ((HS1.out.set HPQ2.out.2 (nrB p q j (q j) ||| 2 ^ p j) (f' := nrB p q (j + 1)) (fun i _ => HVAL.out i)).later (Below.refl _ _).drew)
          generalize 2 ^ p j = P2 at hs hor HS2
          generalize nrB p q j (q j) = Y at hor cq HS2
          generalize hY2 : Y ||| P2 = Y2 at hor HS2
          clear hY2 HVAL HS1
          go_wp2_with fail
          go_region
          clear hc0 hc1 cq fq hs hor HCC
          generalize (Wb.setCell ⟨w1.heap.size, q j, none⟩ (.int .u64 (Y2 : Nat))).drew = Wc at *
          go_wp2_with fail
          exact ⟨⟨j + 1, h1, by go_num, HS2⟩, by simp [intOf]; omega⟩
        · obtain rfl : j = m := by omega
          go_wp2_with fail
          go_ret
          exact ⟨_, rfl, ⟨HF.out.row, HF.out.fz, HB1.out.trans (HF.out.below.mono HB1.out.size), HB1.out.size, HF.out.lt⟩⟩
end Go.Proofs.YtojljmapdafmaaaDoor
