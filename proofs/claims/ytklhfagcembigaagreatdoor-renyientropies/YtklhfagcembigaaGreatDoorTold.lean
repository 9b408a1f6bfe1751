/- (sum).told where the sum has a form. -/
import Derived.Test.YtklhfagcembigaaGreatDoorKeys
import Derived.Test.YtklhfagcembigaaGreatDoorEight
namespace Go.Proofs.YtklhfagcembigaaGreatDoor
open Go.RowKit Go.Maps Go.Sort Go.Shelf

def gcdL (den : Int) (cf : Int → Int) (ks : List Int) : Nat → Nat := gcdTo den (fun i => cf (ks.getD i 0))

theorem ownsMap_later {H : Type} {P : Program} {k : TypeId} {R : Value → Option (DataW H × List MemPlace)} {w w' : World} {b n : Nat} {D : DataW H} (h : w.ownsMap P k R b n D) (hb : w'.heap[b]? = w.heap[b]?) : w'.ownsMap P k R b n D := by
  obtain ⟨es, clock, hm, Ft, hs, hD⟩ := h
  exact ⟨es, clock, hb.trans hm, Ft, hs, hD⟩

/-- The terms of a sum whose keys are ks, over the common divisor g. -/
def quo (cf : Int → Int) (g : Nat) (x : Int) : Int := (cf x).tdiv (g : Int)
def termsOf (q : Int → Int) : List Int → List Value
  | [] => []
  | x :: r => if q x = 0 then termsOf q r else .int .i64 x :: .int .i64 (q x) :: termsOf q r
def countOf (q : Int → Int) : List Int → Nat
  | [] => 0
  | x :: r => if q x = 0 then countOf q r else countOf q r + 1
theorem termsOf_append (q : Int → Int) : ∀ l r, termsOf q (l ++ r) = termsOf q l ++ termsOf q r
  | [], r => rfl
  | x :: l, r => by
    by_cases h : q x = 0
    · simp [termsOf, h, termsOf_append q l r]
    · simp [termsOf, h, termsOf_append q l r]
theorem countOf_append (q : Int → Int) : ∀ l r, countOf q (l ++ r) = countOf q l + countOf q r
  | [], r => by simp [countOf]
  | x :: l, r => by
    by_cases h : q x = 0
    · simp [countOf, h, countOf_append q l r]
    · simp [countOf, h, countOf_append q l r]; omega
theorem countOf_le (q : Int → Int) : ∀ l, countOf q l ≤ l.length
  | [] => Nat.le_refl _
  | x :: l => by
    have := countOf_le q l
    by_cases h : q x = 0
    · simp [countOf, h]; omega
    · simp [countOf, h]; omega

theorem row_base {w : World} {base base' : Nat} {e : TypeId} {size : Nat} {v : Value} {k : Nat} {xs : List Value} (h : w.ownsRow base e size v k xs) (hb : base' ≤ base) : w.ownsRow base' e size v k xs := by
  refine ⟨h.1, ?_⟩
  rcases h.2 with hn | ⟨g, cap, cur, hv, hg, r⟩
  · exact Or.inl hn
  · exact Or.inr ⟨g, cap, cur, hv, Nat.le_trans hb hg, r⟩

/-- What told's loops find in memory: the sum's box, the result's cells, the map, the primes' row. -/
structure InTold (w wr : World) (den : Int) (b nn : Nat) (D : DataW Unit) (g : Nat) (ks : List Int) : Prop where
  box0 : wr.cell? ⟨w.heap.size, 0, none⟩ = some (.int .i64 den)
  box1 : wr.cell? ⟨w.heap.size, 1, none⟩ = some (.map (some b))
  res0 : wr.cell? ⟨w.heap.size + 1, 0, none⟩ = some (.int .i64 0)
  res1 : wr.cell? ⟨w.heap.size + 1, 1, none⟩ = some (.slice none 0 0)
  fr0 : wr.frozen? ⟨w.heap.size + 1, 0, none⟩ = false
  fr1 : wr.frozen? ⟨w.heap.size + 1, 1, none⟩ = false
  own : wr.ownsMap Tryz.prog 3 (plainElem Tryz.prog 3) b nn D
  below : Below w.heap.size w wr
  big : w.heap.size + 1 + 1 < wr.heap.size
  keys : ∀ i, i < ks.length → wr.cell? ⟨g, i, none⟩ = some (.int .i64 (ks.getD i 0))

theorem InTold.drewN {w wr : World} {den : Int} {b nn : Nat} {D : DataW Unit} {g : Nat} {ks : List Int} (h : InTold w wr den b nn D g ks) (m : Nat) : InTold w (wr.drewN m) den b nn D g ks :=
  ⟨h.box0, h.box1, h.res0, h.res1, h.fr0, h.fr1, ownsMap_later h.own rfl, below_drewN h.below m, h.big, h.keys⟩
theorem coef_of {D : DataW Unit} {cf : Int → Int} {p c : Int} (h : ∀ x, D.atKey (.int .i64 x) (.lit (.int .i64 0)) = .lit (.int .i64 (cf x))) (hat : D.atKey (.int .i64 p) (.lit (.int .i64 0)) = .lit (.int .i64 c)) : c = cf p := by
  rw [h p] at hat
  simpa using hat.symm

theorem InTold.later {w wr wn : World} {den : Int} {b nn : Nat} {D : DataW Unit} {g : Nat} {ks : List Int} (h : InTold w wr den b nn D g ks) (hb : Below wr.heap.size wr wn) : InTold w wn den b nn D g ks := by
  have hz := h.big
  refine ⟨?_, ?_, ?_, ?_, ?_, ?_, ownsMap_later h.own (hb.block b h.own.lt), h.below.trans (hb.mono (by omega)), Nat.lt_of_lt_of_le hz hb.size, ?_⟩
  · rw [hb.cell (cell_lt h.box0)]; exact h.box0
  · rw [hb.cell (cell_lt h.box1)]; exact h.box1
  · rw [hb.cell (cell_lt h.res0)]; exact h.res0
  · rw [hb.cell (cell_lt h.res1)]; exact h.res1
  · rw [hb.frozen (cell_lt h.res0)]; exact h.fr0
  · rw [hb.frozen (cell_lt h.res1)]; exact h.fr1
  · intro i hi
    rw [hb.cell (cell_lt (h.keys i hi))]; exact h.keys i hi

/-- The second loop's world: the first's is kept; the answer in the making lies in block B. -/
structure InOut (w1 wr : World) (d : Int) (sv : Value) (n : Nat) (xs : List Value) : Prop where
  keep : Below w1.heap.size w1 wr
  o0 : wr.cell? ⟨w1.heap.size, 0, none⟩ = some (.int .i64 d)
  o1 : wr.cell? ⟨w1.heap.size, 1, none⟩ = some sv
  fz : wr.frozen? ⟨w1.heap.size, 1, none⟩ = false
  row : wr.ownsRow (w1.heap.size + 1) 90 2 sv n xs

theorem InOut.start (w1 : World) (d : Int) : InOut w1 (w1.alloc (.cells #[.int .i64 d, .slice none 0 0] 27)) d (.slice none 0 0) 0 [] :=
  ⟨(Below.refl _ _).alloc (Nat.le_refl _) _, by simp, by simp, by simp, ⟨rfl, Or.inl ⟨rfl, rfl⟩⟩⟩

theorem two_new (w : World) (x y : Value) (t : TypeId) (j : Nat) (u : Value) (h : [x, y][j]? = some u) : (w.alloc (.cells #[x, y] t)).cell? ((⟨w.heap.size, 0, none⟩ : Addr).add j) = some u := by
  rw [add_plain, World.cell?_alloc_at _ _ _ _ rfl]
  rw [Nat.zero_add]
  rcases j with _ | _ | j
  · simpa using h
  · simpa using h
  · simp at h

/-- Behind the append and the store. -/
theorem InOut.pushed {w1 wr w3 : World} {d : Int} {sv sv' : Value} {n : Nat} {xs news : List Value} {X : Obj} (h : InOut w1 wr d sv n xs) (hg : (wr.alloc X).grownBy w3 sv.ownBlock)
    (hrow : w3.ownsRow (w1.heap.size + 1) 90 2 sv' (n + 1) (xs ++ news)) :
    w3.cell? ⟨w1.heap.size, 1, none⟩ = some sv ∧ w3.frozen? ⟨w1.heap.size, 1, none⟩ = false ∧ InOut w1 (w3.setCell ⟨w1.heap.size, 1, none⟩ sv') d sv' (n + 1) (xs ++ news) := by
  have hB := cell_lt h.o0
  simp only at hB
  have hb : Below (w1.heap.size + 1) wr w3 := ((Below.refl _ _).alloc (by omega) _).grown hg (by simp; omega) (fun k e => (h.row.lt k e).1)
  have c0 : w3.cell? ⟨w1.heap.size, 0, none⟩ = some (.int .i64 d) := by rw [hb.cell (by show w1.heap.size < w1.heap.size + 1; omega)]; exact h.o0
  have c1 : w3.cell? ⟨w1.heap.size, 1, none⟩ = some sv := by rw [hb.cell (by show w1.heap.size < w1.heap.size + 1; omega)]; exact h.o1
  have f1 : w3.frozen? ⟨w1.heap.size, 1, none⟩ = false := by rw [hb.frozen (by show w1.heap.size < w1.heap.size + 1; omega)]; exact h.fz
  refine ⟨c1, f1, ⟨(h.keep.trans (hb.mono (by omega))).setCell (Nat.le_refl _) _, ?_, World.cell?_setCell_same _ _ _ c1, by simpa using f1, ?_⟩⟩
  · rw [World.cell?_setCell_other _ _ _ _ (by simp)]; exact c0
  · obtain ⟨hl, hr⟩ := hrow
    refine ⟨hl, ?_⟩
    rcases hr with hr | ⟨gg, cap, cur, hv, hg1, hh, rest⟩
    · exact Or.inl hr
    · refine Or.inr ⟨gg, cap, cur, hv, hg1, ?_, rest⟩
      rw [Below.heap_setCell _ _ _ _ (by show gg ≠ w1.heap.size; omega)]
      exact hh

set_option maxRecDepth 100000 in
set_option maxHeartbeats 2000000 in
theorem told_ok (den : Int) (b nn : Nat) (D : DataW Unit) (cf : Int → Int) (ks : List Int) (w : World) (hown : w.ownsMap Tryz.prog 3 (plainElem Tryz.prog 3) b nn D)
    (hat : ∀ x, D.atKey (.int .i64 x) (.lit (.int .i64 0)) = .lit (.int .i64 (cf x))) (hks : ∀ ss : List Int, ss.Perm (intKeys D) → ss.mergeSort (fun x y => decide (x ≤ y)) = ks) (hsz : Maps.size D ≤ 100000) (hlen : ks.length ≤ 100000)
    (hwf : ∀ x ∈ ks, (Lit.int .i64 x).wf = true) (hd1 : 1 ≤ den) (hd2 : den ≤ 1000000000000) (hcf : ∀ x, -2305843009213693952 ≤ cf x ∧ cf x ≤ 2305843009213693952)
    (G : Nat) (hG : gcdL den cf ks ks.length = G) (hdq : den / (G : Int) ≤ 1000000) (hq : ∀ x ∈ ks, (quo cf G x).natAbs ≤ 1099511627776) :
    Calls Tryz.prog 53 #[.agg #[.int .i64 den, .map (some b)]] w fun e w' => ∃ v, e = .returned (.tuple #[.agg #[.int .i64 (den / (G : Int)), v], .nilIface]) ∧ w'.ownsRow w.heap.size 90 2 v (countOf (quo cf G) ks) (termsOf (quo cf G) ks) ∧ Below w.heap.size w w' := by
  have hbl := hown.lt
  have HK : Hid (∀ ss : List Int, ss.Perm (intKeys D) → ss.mergeSort (fun x y => decide (x ≤ y)) = ks) := hks
  have HAT : Hid (∀ x, D.atKey (.int .i64 x) (.lit (.int .i64 0)) = .lit (.int .i64 (cf x))) := hat
  have HWF : Hid (∀ x ∈ ks, (Lit.int .i64 x).wf = true) := hwf
  have HCF : Hid (∀ x, -2305843009213693952 ≤ cf x ∧ cf x ≤ 2305843009213693952) := hcf
  have HG : Hid (gcdL den cf ks ks.length = G) := hG
  have HQ : Hid (∀ x ∈ ks, (quo cf G x).natAbs ≤ 1099511627776) := hq
  clear hks hat hwf hcf hG hq
  have hb3 : Below w.heap.size w (((w.alloc (.cells #[.int .i64 den, .map (some b)] 86)).alloc (.cells #[.int .i64 0, .slice none 0 0] 27)).alloc (.cells #[.map (some b)] 84)) := (((Below.refl _ _).alloc (Nat.le_refl _) _).alloc (by simp) _).alloc (by simp; omega) _
  have hk := maps_keys (some b) ((w.alloc (.cells #[.int .i64 den, .map (some b)] 86)).alloc (.cells #[.int .i64 0, .slice none 0 0] 27))
  have hs := sorted_keys (w.heap.size + 1 + 1) b nn D _ (((w.alloc (.cells #[.int .i64 den, .map (some b)] 86)).alloc (.cells #[.int .i64 0, .slice none 0 0] 27)).alloc (.cells #[.map (some b)] 84)) (by rw [World.cell?_alloc_at _ _ _ _ (by simp)]; rfl) (by simp) (ownsMap_later hown (hb3.block b hbl)) (by unfold maxLen; omega) (by omega)
  go_enter Tryz.func53, Tryz.ntmps53
  go_wp2_with fail
  refine hk.mono ?_
  clear hk
  rintro e w1 ⟨rfl, rfl⟩
  go_wp2_with fail
  refine hs.mono ?_
  clear hs
  rintro e w2 ⟨v, ss, rfl, hperm, hrow, hnil, hb4⟩
  have hms := HK.out ss hperm
  rw [hms] at hrow
  have hsl : ss.length = ks.length := by rw [← hms]; simp
  rw [hsl] at hrow
  rcases hrow.2 with ⟨rfl, hz⟩ | ⟨g, cap, cur, rfl, hbase, hgb, r1, r2, r3, r4⟩
  · obtain rfl : ks = [] := List.eq_nil_of_length_eq_zero hz
    have hs4 := hb4.size
    simp at hs4
    have hbA := hb3.trans (hb4.mono (show w.heap.size ≤ _ by simp; omega))
    have x0 : w2.cell? ⟨w.heap.size, 0, none⟩ = some (.int .i64 den) := by
      rw [hb4.cell (p := ⟨w.heap.size, 0, none⟩) (by simp; omega), World.cell?_alloc_lt _ _ ⟨w.heap.size, 0, none⟩ (by simp; omega), World.cell?_alloc_lt _ _ ⟨w.heap.size, 0, none⟩ (by simp), World.cell?_alloc_at _ _ _ _ rfl]; rfl
    have z0 : w2.cell? ⟨w.heap.size + 1, 0, none⟩ = some (.int .i64 0) := by
      rw [hb4.cell (p := ⟨w.heap.size + 1, 0, none⟩) (by simp), World.cell?_alloc_lt _ _ ⟨w.heap.size + 1, 0, none⟩ (by simp), World.cell?_alloc_at _ _ _ _ (by simp)]; rfl
    have z1 : w2.cell? ⟨w.heap.size + 1, 1, none⟩ = some (.slice none 0 0) := by
      rw [hb4.cell (p := ⟨w.heap.size + 1, 1, none⟩) (by simp), World.cell?_alloc_lt _ _ ⟨w.heap.size + 1, 1, none⟩ (by simp), World.cell?_alloc_at _ _ _ _ (by simp)]; rfl
    have f0 : w2.frozen? ⟨w.heap.size + 1, 0, none⟩ = false := by
      rw [hb4.frozen (p := ⟨w.heap.size + 1, 0, none⟩) (by simp), World.frozen?_alloc_old _ _ ⟨w.heap.size + 1, 0, none⟩ (by simp)]; exact frozen_new (by simp)
    have f1 : w2.frozen? ⟨w.heap.size + 1, 1, none⟩ = false := by
      rw [hb4.frozen (p := ⟨w.heap.size + 1, 1, none⟩) (by simp), World.frozen?_alloc_old _ _ ⟨w.heap.size + 1, 1, none⟩ (by simp)]; exact frozen_new (by simp)
    obtain rfl : den.natAbs = G := HG.out
    have hG1 : (den.natAbs : Int) = den := by omega
    have hdd : den / den = 1 := Int.ediv_self (by omega)
    have HDD : Hid (den / (den.natAbs : Int) = 1) := by show _ = _; rw [hG1, hdd]
    have HBA : Hid (Below w.heap.size w w2) := hbA
    clear hrow hnil hb4 hb3 hbA HG HQ hG1 hdq
    have y0 : ∀ X, (w2.alloc X).cell? ⟨w.heap.size + 1, 0, none⟩ = some (.int .i64 0) := fun X => by rw [World.cell?_alloc_lt _ _ ⟨w.heap.size + 1, 0, none⟩ (by show w.heap.size + 1 < _; omega)]; exact z0
    have y1 : ∀ X, (w2.alloc X).cell? ⟨w.heap.size + 1, 1, none⟩ = some (.slice none 0 0) := fun X => by rw [World.cell?_alloc_lt _ _ ⟨w.heap.size + 1, 1, none⟩ (by show w.heap.size + 1 < _; omega)]; exact z1
    have g0 : ∀ X, (w2.alloc X).frozen? ⟨w.heap.size + 1, 0, none⟩ = false := fun X => by rw [World.frozen?_alloc_old _ _ ⟨w.heap.size + 1, 0, none⟩ (by show w.heap.size + 1 ≠ _; omega)]; exact f0
    have g1 : ∀ X, (w2.alloc X).frozen? ⟨w.heap.size + 1, 1, none⟩ = false := fun X => by rw [World.frozen?_alloc_old _ _ ⟨w.heap.size + 1, 1, none⟩ (by show w.heap.size + 1 ≠ _; omega)]; exact f1
    go_wp2_with fail
    refine wp_loop_rounds 1 ?_
    rw [rounds_succ]
    go_wp2_with fail
    refine wp_loop_rounds 1 ?_
    rw [rounds_succ]
    go_wp2_with fail
    refine bodyPost_ret (v := .tuple #[.agg #[.int .i64 1, .slice none 0 0], .nilIface]) (by simp [results, Tryz.results53, go_sem, y0, y1]) rfl ⟨.slice none 0 0, by rw [HDD.out], ⟨rfl, Or.inl ⟨rfl, rfl⟩⟩, ?_⟩
    exact ((HBA.out.alloc HBA.out.size _).setCell (by simp) _).setCell (by simp) _
  · have hI : InTold w w2 den b nn D g ks := by
      have hs4 := hb4.size
      simp at hs4
      refine ⟨?_, ?_, ?_, ?_, ?_, ?_, ?_, hb3.trans (hb4.mono (by simp; omega)), by omega, ?_⟩
      · rw [hb4.cell (p := ⟨w.heap.size, 0, none⟩) (by simp; omega), World.cell?_alloc_lt _ _ ⟨w.heap.size, 0, none⟩ (by simp; omega), World.cell?_alloc_lt _ _ ⟨w.heap.size, 0, none⟩ (by simp), World.cell?_alloc_at _ _ _ _ rfl]; rfl
      · rw [hb4.cell (p := ⟨w.heap.size, 1, none⟩) (by simp; omega), World.cell?_alloc_lt _ _ ⟨w.heap.size, 1, none⟩ (by simp; omega), World.cell?_alloc_lt _ _ ⟨w.heap.size, 1, none⟩ (by simp), World.cell?_alloc_at _ _ _ _ rfl]; rfl
      · rw [hb4.cell (p := ⟨w.heap.size + 1, 0, none⟩) (by simp), World.cell?_alloc_lt _ _ ⟨w.heap.size + 1, 0, none⟩ (by simp), World.cell?_alloc_at _ _ _ _ (by simp)]; rfl
      · rw [hb4.cell (p := ⟨w.heap.size + 1, 1, none⟩) (by simp), World.cell?_alloc_lt _ _ ⟨w.heap.size + 1, 1, none⟩ (by simp), World.cell?_alloc_at _ _ _ _ (by simp)]; rfl
      · rw [hb4.frozen (p := ⟨w.heap.size + 1, 0, none⟩) (by simp), World.frozen?_alloc_old _ _ ⟨w.heap.size + 1, 0, none⟩ (by simp)]; exact frozen_new (by simp)
      · rw [hb4.frozen (p := ⟨w.heap.size + 1, 1, none⟩) (by simp), World.frozen?_alloc_old _ _ ⟨w.heap.size + 1, 1, none⟩ (by simp)]; exact frozen_new (by simp)
      · exact ownsMap_later hown ((hb4.block b (by simp; omega)).trans (hb3.block b hbl))
      · intro i hi
        have : w2.cell? ⟨g, i, none⟩ = cur[i]? := by simp [World.cell?, hgb]
        have h5 : cur.toList[i]? = (ks.map encZ)[i]? := by rw [← r4, List.getElem?_take_of_lt (by omega)]
        rw [this, ← Array.getElem?_toList, h5]
        simp [encZ, hi]
    have HI : Hid (InTold w w2 den b nn D g ks) := hI
    clear hI hrow hnil hgb r4 r3 hb4 hb3
    have x0 := HI.out.box0
    go_wp2_with fail
    clear x0
    go_loopw [5, 20] (fun t i wr => ∃ k : Nat, k ≤ ks.length ∧ t = .int .i64 (gcdL den cf ks k) ∧ i = .int .i64 k ∧ Hid (InTold w wr den b nn D g ks)) (fun _ i _ => ks.length - (intOf i).toNat)
    case atStart => exact ⟨0, Nat.zero_le _, by show _ = Value.int IntKind.i64 ((den.natAbs : Nat) : Int); congr 1; omega, rfl, HI⟩
    case round =>
      clear HI
      obtain ⟨k, hk, rfl, rfl, HI⟩ := hrel
      have hgp := gcdTo_pos den (fun i => cf (ks.getD i 0)) hd1 k
      have HGP : Hid (1 ≤ gcdL den cf ks k ∧ gcdL den cf ks k ≤ den.natAbs) := hgp
      clear hgp
      have hg1 : 1 ≤ gcdL den cf ks k := HGP.out.1
      have hg2 : (gcdL den cf ks k : Int) ≤ 1000000000000 := by have := HGP.out.2; omega
      have x0 := HI.out.box0
      have x1 := HI.out.box1
      by_cases hlt : k < ks.length
      · have hck := HI.out.keys k hlt
        have hc1 := (HCF.out (ks.getD k 0)).1
        have hc2 := (HCF.out (ks.getD k 0)).2
        have hmem : ks.getD k 0 ∈ ks := by
          rw [List.getD_eq_getElem?_getD, List.getElem?_eq_getElem hlt]; exact List.getElem_mem hlt
        have hkey : keyOf Tryz.prog 3 (.int .i64 (ks.getD k 0)) = some (.int .i64 (ks.getD k 0)) := keyOf_int_mk Tryz.underlying3 (HWF.out _ hmem)
        have HKEY : Hid (keyOf Tryz.prog 3 (.int .i64 (ks.getD k 0)) = some (.int .i64 (ks.getD k 0))) := hkey
        obtain ⟨p, hp⟩ : ∃ p, p = ks.getD k 0 := ⟨_, rfl⟩
        have HP : Hid (p = ks.getD k 0) := hp
        rw [← hp] at hck hc1 hc2 HKEY
        clear hkey hmem hp
        go_wp2_with (first
          | (at_lookup; go_must (refine wpList_lookup_own_int _ rfl _ _ 84 rfl 3 3 .i64 Tryz.lawInt Tryz.underlying84 Tryz.underlying3 (Tryz.zeroInt _) b nn D rfl HI.out.own _ _ rfl HKEY.out ?_; intro c hat hwc; have hcc := coef_of HAT.out hat; clear hat hwc; subst hcc))
          | (go_at_call 55; refine (GCD_any _ _ _ (by omega) (by omega) (by omega) (by omega)).mono ?_; rintro e w' ⟨rfl, mm, rfl⟩))
        exact ⟨⟨k + 1, by omega, by show _ = Value.int IntKind.i64 ((Int.gcd (gcdL den cf ks k : Int) (cf (ks.getD k 0)) : Nat) : Int); rw [← HP.out], by go_num, HI.out.drewN mm⟩, by simp [intOf]; omega⟩
      · obtain rfl : k = ks.length := by omega
        have HG' := HG.out
        rw [HG'] at hg1 hg2 HGP ⊢
        clear HG'
        obtain ⟨i0, hi, hz0, hz1, hz2⟩ := info_parts Tryz.infoTerm
        have HINF : Hid (Tryz.prog.info? 90 = some i0 ∧ i0.zero = some (.agg #[.int .i64 0, .int .i64 0]) ∧ i0.size = 2 ∧ i0.bytes = 16) := ⟨hi, hz0, hz1, hz2⟩
        clear hi hz0 hz1 hz2
        have HS0 : Hid (InOut wr (wr.alloc (.cells #[.int .i64 (den / (G : Int)), .slice none 0 0] 27)) (den / (G : Int)) (.slice none 0 0) 0 []) := InOut.start wr _
        have hdq0 : 0 ≤ den / (G : Int) := Int.ediv_nonneg (by omega) (by omega)
        have HIN : Hid (InTold w wr den b nn D g ks) := HI.out
        clear HI
        go_wp2_with fail
        clear x0 x1
        obtain ⟨w1, hw1⟩ : ∃ w1, w1 = wr := ⟨_, rfl⟩
        rw [← hw1] at HS0 HIN ⊢
        clear hw1
        go_loopw [43] (fun i wr => ∃ (k : Nat) (sv : Value), k ≤ ks.length ∧ i = .int .i64 k ∧ Hid (InOut w1 wr (den / (G : Int)) sv (countOf (quo cf G) (ks.take k)) (termsOf (quo cf G) (ks.take k)))) (fun i _ => ks.length - (intOf i).toNat)
        case atStart => exact ⟨0, .slice none 0 0, Nat.zero_le _, rfl, HS0.out⟩
        case round =>
          clear HS0
          obtain ⟨k, sv, hk, rfl, HO⟩ := hrel
          have HI : Hid (InTold w wr den b nn D g ks) := HIN.out.later HO.out.keep
          have x0 := HI.out.box0
          have x1 := HI.out.box1
          have y0 := HO.out.o0
          have y1 := HO.out.o1
          have yf := HO.out.fz
          by_cases hlt : k < ks.length
          · have hck := HI.out.keys k hlt
            have hmem : ks.getD k 0 ∈ ks := by
              rw [List.getD_eq_getElem?_getD, List.getElem?_eq_getElem hlt]; exact List.getElem_mem hlt
            have HKEY : Hid (keyOf Tryz.prog 3 (.int .i64 (ks.getD k 0)) = some (.int .i64 (ks.getD k 0))) := keyOf_int_mk Tryz.underlying3 (HWF.out _ hmem)
            have hc1 := (HCF.out (ks.getD k 0)).1
            have hc2 := (HCF.out (ks.getD k 0)).2
            have hqb := HQ.out _ hmem
            obtain ⟨p, hp⟩ : ∃ p, p = ks.getD k 0 := ⟨_, rfl⟩
            have HP : Hid (p = ks.getD k 0) := hp
            rw [← hp] at hck HKEY hc1 hc2 hqb
            clear hmem hp
            obtain ⟨q, hqq⟩ : ∃ q, q = quo cf G p := ⟨_, rfl⟩
            have HQQ : Hid (q = quo cf G p) := hqq
            rw [← hqq] at hqb
            have hqe : (cf p).tdiv (G : Int) = q := hqq.symm
            clear hqq
            have htake : Hid (ks.take (k + 1) = ks.take k ++ [p]) := by
              show _ = _
              rw [List.take_succ_eq_append_getElem hlt, HP.out, List.getD_eq_getElem?_getD, List.getElem?_eq_getElem hlt]
              rfl
            by_cases hq0 : q = 0
            · subst hq0
              go_wp2_with (first
                | (at_lookup; go_must (refine wpList_lookup_own_int _ rfl _ _ 84 rfl 3 3 .i64 Tryz.lawInt Tryz.underlying84 Tryz.underlying3 (Tryz.zeroInt _) b nn D rfl HI.out.own _ _ rfl HKEY.out ?_; intro c hat hwc; have hcc := coef_of HAT.out hat; clear hat hwc; subst hcc))
                | (go_at_call 77; refine (size_any _ _ (by omega) (by omega)).mono ?_; rintro e w' ⟨rfl, hw'⟩; rw [hw']; clear hw'))
              exact ⟨⟨k + 1, sv, by omega, by go_num, by
                show InOut _ _ _ _ _ _
                rw [htake.out, termsOf_append, countOf_append]
                have h0 : quo cf G p = 0 := HQQ.out.symm
                simpa [termsOf, countOf, h0] using HO.out⟩, by simp [intOf]; omega⟩
            · have hqn : (q != 0) = true := by simp [hq0]
              have HQ0 : Hid (¬ q = 0) := hq0
              clear hq0
              have hcn := countOf_le (quo cf G) (ks.take k)
              have hcn2 : countOf (quo cf G) (ks.take k) ≤ 100000 := by have := List.length_take_le k ks; omega
              have HSZ : Hid (w1.heap.size < wr.heap.size) := cell_lt HO.out.o0
              have hsz := HSZ.out
              go_wp2_with (first
                | (at_lookup; go_must (refine wpList_lookup_own_int _ rfl _ _ 84 rfl 3 3 .i64 Tryz.lawInt Tryz.underlying84 Tryz.underlying3 (Tryz.zeroInt _) b nn D rfl HI.out.own _ _ rfl HKEY.out ?_; intro c hat hwc; have hcc := coef_of HAT.out hat; clear hat hwc; subst hcc))
                | (go_at_call 77; refine (size_any _ _ (by omega) (by omega)).mono ?_; rintro e w' ⟨rfl, hw'⟩; rw [hw']; clear hw')
                | (at_builtin; go_must (refine wpList_append_lies _ rfl _ _ _ rfl (w1.heap.size + 1) 90 i0 _ 2 16 Tryz.underlying25 HINF.out.1 HINF.out.2.1 HINF.out.2.2.1 HINF.out.2.2.2 rfl (by omega) sv _ _ rfl (HO.out.row.alloc _) ⟨wr.heap.size, 0, none⟩ 1 1 [.int .i64 p, .int .i64 q] rfl rfl (two_new _ _ _ _) (by simp [Value.oneCell']) (by omega) (by unfold maxLen; omega) (by omega) (by simp; omega) _ rfl ?_; intro g' cap' w3 hown3 hgrow3 hat3 hlt3; obtain ⟨z1, z2, HP3⟩ := HO.out.pushed hgrow3 hown3; have HPU := Hid.mk' HP3; clear hown3 hgrow3 hat3 HP3)))
              exact ⟨⟨k + 1, _, by omega, by go_num, by
                show InOut _ _ _ _ _ _
                rw [htake.out, termsOf_append, countOf_append]
                have h0 : quo cf G p = q := HQQ.out.symm
                have h1 : ¬ q = 0 := HQ0.out
                simpa [termsOf, countOf, h0, h1] using HPU.out⟩, by simp [intOf]; omega⟩
          · obtain rfl : k = ks.length := by omega
            have z0 := HI.out.res0
            have z1 := HI.out.res1
            have f0 := HI.out.fr0
            have f1 := HI.out.fr1
            have hlt1 : w.heap.size + 1 < w1.heap.size := by have := HIN.out.big; omega
            have hfull : ks.take ks.length = ks := List.take_length
            have HOO : Hid (InOut w1 wr (den / (G : Int)) sv (countOf (quo cf G) ks) (termsOf (quo cf G) ks)) := by have := HO.out; rwa [hfull] at this
            clear hfull HO
            obtain ⟨ad, n', c', rfl⟩ : ∃ ad n' c', sv = .slice ad n' c' := by
              rcases HOO.out.row.2 with ⟨rfl, _⟩ | ⟨gg, cap', cur', rfl, _⟩
              · exact ⟨_, _, _, rfl⟩
              · exact ⟨_, _, _, rfl⟩
            go_wp2_with fail
            refine bodyPost_ret (v := .tuple #[.agg #[.int .i64 (den / (G : Int)), .slice ad n' c'], .nilIface]) (by simp [results, Tryz.results53, go_sem, z0, z1]) rfl ⟨.slice ad n' c', rfl, ?_, ?_⟩
            · have h1 := ownsRow_setCell_below HOO.out.row (a := ⟨w.heap.size + 1, 0, none⟩) (by show w.heap.size + 1 < _; omega) (.int .i64 (den / (G : Int)))
              have h2 := ownsRow_setCell_below h1 (a := ⟨w.heap.size + 1, 1, none⟩) (by show w.heap.size + 1 < _; omega) (.slice ad n' c')
              exact row_base h2 (by omega)
            · exact (HI.out.below.setCell (by simp) _).setCell (by simp) _
end Go.Proofs.YtklhfagcembigaaGreatDoor
