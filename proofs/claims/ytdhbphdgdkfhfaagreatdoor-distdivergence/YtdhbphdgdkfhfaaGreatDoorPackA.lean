/- Two lists that tell the same; the document's sum of two in form. -/
import Derived.Test.YtdhbphdgdkfhfaaGreatDoorLogSum
import Derived.Test.YtdhbphdgdkfhfaaGreatDoorAddAny
import Derived.Test.YtdhbphdgdkfhfaaGreatDoorPutEnt
import Derived.Test.YtdhbphdgdkfhfaaGreatDoorPlus
import Derived.Test.YtdhbphdgdkfhfaaGreatDoorWideMath
import Derived.Test.YtdhbphdgdkfhfaaGreatDoorWLog
import Derived.Test.YtdhbphdgdkfhfaaGreatDoorWTold
import Derived.Test.YtdhbphdgdkfhfaaGreatDoorWToldW
namespace Go.Proofs.YtdhbphdgdkfhfaaGreatDoor
open Go.RowKit

def nzL (l : List (Int × Int)) : List (Int × Int) := l.filter fun e => !decide (e.2 = 0)
theorem nz_rise {l : List (Int × Int)} (h : Rising l) : Rising (nzL l) := List.Pairwise.filter _ h
theorem nz_nz {l : List (Int × Int)} : ∀ e ∈ nzL l, e.2 ≠ 0 := fun e he => by
  have := (List.mem_filter.1 he).2
  simpa using this
theorem nz_at {l : List (Int × Int)} (h : Rising l) (x : Int) : atL (nzL l) x = atL l x := by
  by_cases h0 : atL l x = 0
  · rw [h0]
    by_cases h1 : atL (nzL l) x = 0
    · exact h1
    · have h2 := (List.mem_filter.1 (atL_some h1)).1
      have h3 := atL_mem h h2
      simp only at h3
      exact h3.symm.trans h0
  · exact atL_mem (nz_rise h) (List.mem_filter.2 ⟨atL_some h0, by simpa using h0⟩)
theorem nz_same {l l' : List (Int × Int)} (h : Rising l) (h' : Rising l') (he : ∀ x, atL l x = atL l' x) : nzL l = nzL l' := rising_ext (nz_rise h) (nz_rise h') nz_nz nz_nz (fun x => by rw [nz_at h, nz_at h', he])
theorem nz_snd (l : List (Int × Int)) : (nzL l).map Prod.snd = (l.map Prod.snd).filter fun x => !decide (x = 0) := by
  unfold nzL
  rw [List.filter_map]
  rfl
theorem gList_same {l l' : List (Int × Int)} (h : Rising l) (h' : Rising l') (he : ∀ x, atL l x = atL l' x) (g : Nat) : gList g (l.map Prod.snd) = gList g (l'.map Prod.snd) := by
  rw [← gList_zeros, ← gList_zeros (l'.map Prod.snd), ← nz_snd, ← nz_snd, nz_same h h' he]
theorem over_same {l l' : List (Int × Int)} (h : Rising l) (h' : Rising l') (he : ∀ x, atL l x = atL l' x) (G : Nat) : overL G l = overL G l' := rising_ext (rising_over h G) (rising_over h' G) (fun e he => over_nz he) (fun e he => over_nz he) (fun x => by rw [atL_over h, atL_over h', he])
theorem fits_same {l l' : List (Int × Int)} (h' : Rising l') (he : ∀ x, atL l x = atL l' x) {M G : Nat} (hf : FitsL M G l) : FitsL M G l' := by
  refine ⟨hf.1, fun e hm => ?_⟩
  by_cases h0 : e.2 = 0
  · rw [h0]; simp
  · have h1 := atL_mem h' hm
    have h2 := he e.1
    rw [h1] at h2
    have h3 := hf.2 _ (atL_some (l := l) (x := e.1) (by rw [h2]; exact h0))
    simpa [h2] using h3
theorem gcdL_list {D : Nat} {l : List (Int × Int)} (hr : Rising l) : gcdL (D : Int) (atL l) (l.map Prod.fst) l.length = gList D (l.map Prod.snd) := by
  have h0 : gcdL (D : Int) (atL l) (l.map Prod.fst) l.length = gcdTo (D : Int) (cOf l) l.length := by
    have aux : ∀ k, k ≤ l.length → gcdTo (D : Int) (fun i => atL l ((l.map Prod.fst).getD i 0)) k = gcdTo (D : Int) (cOf l) k := by
      intro k
      induction k with
      | zero => intro _; rfl
      | succ k ih =>
        intro hk
        show Int.gcd (gcdTo (D : Int) (fun i => atL l ((l.map Prod.fst).getD i 0)) k : Int) (atL l ((l.map Prod.fst).getD k 0)) = Int.gcd (gcdTo (D : Int) (cOf l) k : Int) (cOf l k)
        rw [ih (by omega)]
        have : atL l ((l.map Prod.fst).getD k 0) = cOf l k := by rw [getD_fst (by omega)]; exact atL_mem hr (getD_mem (by omega))
        rw [this]
    exact aux _ (Nat.le_refl _)
  rw [h0, gcdTo_list _ _ _ (Nat.le_refl _), List.take_length, Int.natAbs_natCast]
theorem sumAt_list {t : List (Int × Int)} (hr : Rising t) (x : Int) : ∀ k, k ≤ t.length → sumAt (pOf t) (cOf t) x k = atL (t.take k) x
  | 0, _ => by simp [sumAt, atL]
  | k + 1, h => by
    rw [atL_take hr (by omega)]
    show sumAt _ _ _ k + _ = _
    rw [sumAt_list hr x k (by omega)]
    by_cases hx : x = pOf t k
    · rw [if_pos hx, if_pos hx.symm]
    · rw [if_neg hx, if_neg (Ne.symm hx)]
theorem sumAt_all {t : List (Int × Int)} (hr : Rising t) (x : Int) : sumAt (pOf t) (cOf t) x t.length = atL t x := by rw [sumAt_list hr x _ (Nat.le_refl _), List.take_length]
theorem sumAt_le {p c : Nat → Int} {n : Nat} (h : ∀ i, i < n → 0 ≤ p i ∧ -1099511627776 ≤ c i ∧ c i ≤ 1099511627776) (x : Int) : ∀ k, k ≤ n → (sumAt p c x k).natAbs ≤ k * 1099511627776
  | 0, _ => by simp [sumAt]
  | k + 1, hk => by
    have ih := sumAt_le h x k (by omega)
    have h1 := h k (by omega)
    show (sumAt p c x k + if x = p k then c k else 0).natAbs ≤ _
    by_cases hx : x = p k
    · rw [if_pos hx]; omega
    · rw [if_neg hx]; omega
theorem mul_bound {F s : Int} {a b : Nat} (hF : F.natAbs ≤ a) (hs : s.natAbs ≤ b) : (F * s).natAbs ≤ a * b := by rw [Int.natAbs_mul]; exact Nat.mul_le_mul hF hs
theorem okLog_pc {d : Int} {n : Nat} {p c : Nat → Int} (h : OkLog d n p c) : ∀ i, i < n → 0 ≤ p i ∧ -1099511627776 ≤ c i ∧ c i ≤ 1099511627776 := fun i hi => by
  have h1 := (h.2.2.1 i hi).2
  exact ⟨by have := h1.2.2.2.2.1; omega, h1.2.2.1, h1.2.2.2.1⟩
theorem LogAt.listed' {w : World} {sv : Value} {n : Nat} {p c : Nat → Int} (h : LogAt w sv n p c) : ∃ t : List (Int × Int), n = t.length ∧ LogAt w sv t.length (pOf t) (cOf t) := by
  refine ⟨(List.range n).map fun i => (p i, c i), by simp, ?_⟩
  rcases h with ⟨ad, cap, h1, h2⟩ | ⟨b, o, cap, h1, h2, h3⟩
  · exact Or.inl ⟨ad, cap, h1, by simp [h2]⟩
  · refine Or.inr ⟨b, o, cap, by simpa using h1, by simpa using h2, fun i hi => ?_⟩
    have hi' : i < n := by simpa using hi
    have e1 : pOf ((List.range n).map fun i => (p i, c i)) i = p i := by simp [pOf, List.getD, hi']
    have e2 : cOf ((List.range n).map fun i => (p i, c i)) i = c i := by simp [cOf, List.getD, hi']
    rw [e1, e2]
    exact h3 i hi'

/-- The answer of a sum: in form and nil, or nothing and ErrBound. -/
def SaidOf (M : Nat) (l : List (Int × Int)) (a : Nat → Addr) (w : World) (dn : Int) (v er : Value) : Prop := (FitsL M (gList M (l.map Prod.snd)) l ∧ dn = ((M / gList M (l.map Prod.snd) : Nat) : Int) ∧ er = .nilIface ∧ ListAt w v (overL (gList M (l.map Prod.snd)) l)) ∨ (¬ FitsL M (gList M (l.map Prod.snd)) l ∧ dn = 0 ∧ v = .slice none 0 0 ∧ er = .iface 155 (.pointer (some (a 1))))
theorem ToldOf.same {M : Nat} {l l' : List (Int × Int)} (h : Rising l) (h' : Rising l') (he : ∀ x, atL l x = atL l' x) {w : World} {dn : Int} {v : Value} {code : Int} (ht : ToldOf M l w dn v code) : ToldOf M l' w dn v code := by
  have hg := gList_same h h' he M
  have ho := over_same h h' he (gList M (l'.map Prod.snd))
  rcases ht with ⟨h1, h2, h3, h4⟩ | ⟨h1, h2, h3, h4⟩
  · rw [hg] at h1 h2 h4
    rw [ho] at h4
    exact Or.inl ⟨fits_same h' he h1, h2, h3, h4⟩
  · rw [hg] at h1
    exact Or.inr ⟨fun hf => h1 (fits_same h (fun x => (he x).symm) hf), h2, h3, h4⟩
theorem ToldOf.later {M : Nat} {l : List (Int × Int)} {w w' : World} {dn : Int} {v : Value} {code : Int} (ht : ToldOf M l w dn v code) (hb : Below w.heap.size w w') : ToldOf M l w' dn v code := by
  rcases ht with ⟨h1, h2, h3, h4⟩ | h
  · exact Or.inl ⟨h1, h2, h3, OwnAt.later h4 hb⟩
  · exact Or.inr h
theorem SaidOf.later {M : Nat} {l : List (Int × Int)} {a : Nat → Addr} {w w' : World} {dn : Int} {v er : Value} (ht : SaidOf M l a w dn v er) (hb : Below w.heap.size w w') : SaidOf M l a w' dn v er := by
  rcases ht with ⟨h1, h2, h3, h4⟩ | h
  · exact Or.inl ⟨h1, h2, h3, OwnAt.later h4 hb⟩
  · exact Or.inr h

/-- isLog of what both say of one sum. -/
theorem isLog_said (M : Nat) (l : List (Int × Int)) (a : Nat → Addr) (w : World) (h : Errs w a) (hl : l.length ≤ 1000000) (dn1 dn2 code : Int) (ad1 ad2 : Option Addr) (m1 m2 cap1 cap2 : Nat) (er : Value) (h1 : SaidOf M l a w dn1 (.slice ad1 m1 cap1) er) (h2 : ToldOf M l w dn2 (.slice ad2 m2 cap2) code) :
    Calls Tryz.prog 10 #[.agg #[.int .i64 dn1, .slice ad1 m1 cap1], er, .agg #[.int .i64 dn2, .slice ad2 m2 cap2], .int .i64 code] w fun e w' => e = .returned (.bool true) ∧ Below w.heap.size w w' := by
  rcases h1 with ⟨f1, rfl, rfl, l1⟩ | ⟨f1, rfl, v1, rfl⟩
  · rcases h2 with ⟨_, rfl, rfl, l2⟩ | ⟨f2, _⟩
    · exact isLog_ok _ _ _ _ _ _ w l1 l2 (by have := length_over l (gList M (l.map Prod.snd)); omega)
    · exact absurd f1 f2
  · rcases h2 with ⟨f2, _⟩ | ⟨_, rfl, v2, rfl⟩
    · exact absurd f2 f1
    · rw [v1]
      exact isLog_err a 1 (by decide) 0 ad2 m2 cap2 w h
end Go.Proofs.YtdhbphdgdkfhfaaGreatDoor

/- dist.sumOver: a sum of all that a function puts. -/
namespace Go.Proofs.YtdhbphdgdkfhfaaGreatDoor
open Go.RowKit Go.Maps

/-- What is told of a sum that has a form: f over M. -/
def LogBy (base M : Nat) (f : Int → Int) (w : World) (dn : Int) (v : Value) : Prop := ∃ l : List (Int × Int), Rising l ∧ (∀ x, atL l x = f x) ∧ l.length ≤ 90000 ∧ dn = ((M / gList M (l.map Prod.snd) : Nat) : Int) ∧ w.ownsRow base 43 2 v (overL (gList M (l.map Prod.snd)) l).length (termCells (pOf (overL (gList M (l.map Prod.snd)) l)) (cOf (overL (gList M (l.map Prod.snd)) l)) (overL (gList M (l.map Prod.snd)) l).length)
theorem LogBy.form {base M : Nat} {f : Int → Int} {w : World} {dn : Int} {v : Value} (h : LogBy base M f w dn v) : ∃ ad n c, v = .slice ad n c := by
  obtain ⟨l, _, _, _, _, hr⟩ := h
  rcases hr.2 with ⟨rfl, _⟩ | ⟨gg, cap', cur', rfl, _⟩
  · exact ⟨_, _, _, rfl⟩
  · exact ⟨_, _, _, rfl⟩
theorem LogBy.later {base M : Nat} {f : Int → Int} {w w' : World} {dn : Int} {v : Value} (h : LogBy base M f w dn v) (hb : Below w.heap.size w w') : LogBy base M f w' dn v := by
  obtain ⟨l, h1, h2, h3, h5, hr⟩ := h
  exact ⟨l, h1, h2, h3, h5, ownsRow_past hr hb⟩
theorem LogBy.lower {base base' M : Nat} {f : Int → Int} {w : World} {dn : Int} {v : Value} (h : LogBy base M f w dn v) (hb : base' ≤ base) : LogBy base' M f w dn v := by
  obtain ⟨l, h1, h2, h3, h5, hr⟩ := h
  exact ⟨l, h1, h2, h3, h5, row_base hr hb⟩
theorem LogBy.set {base M : Nat} {f : Int → Int} {w : World} {dn : Int} {v : Value} (h : LogBy base M f w dn v) {B : Nat} (hB : B < base) (x y : Value) : LogBy base M f ((w.setCell ⟨B, 0, none⟩ x).setCell ⟨B, 1, none⟩ y) dn v := by
  obtain ⟨l, h1, h2, h3, h5, hr⟩ := h
  exact ⟨l, h1, h2, h3, h5, ownsRow_setCell_below (ownsRow_setCell_below hr (a := ⟨B, 0, none⟩) hB x) (a := ⟨B, 1, none⟩) hB y⟩
theorem LogBy.list {base M : Nat} {f : Int → Int} {w : World} {dn : Int} {v : Value} (h : LogBy base M f w dn v) : ∃ l : List (Int × Int), Rising l ∧ (∀ x, atL l x = f x) ∧ l.length ≤ 90000 ∧ dn = ((M / gList M (l.map Prod.snd) : Nat) : Int) ∧ ListAt w v (overL (gList M (l.map Prod.snd)) l) := by
  obtain ⟨l, h1, h2, h3, h5, hr⟩ := h
  exact ⟨l, h1, h2, h3, h5, ownAt_of_row hr⟩

set_option maxRecDepth 100000 in
set_option maxHeartbeats 2000000 in
theorem sumOver_any (K : Nat) (cap : Array Value) (M c : Nat) (f : Int → Int) (w : World) (hent : ∀ (args : Array Value) (w : World), (callFunc K args).run Tryz.prog w = .ok (.enter K args) w) (hM : 1 ≤ M) (hM6 : M ≤ 4096) (hc : c ≤ 4000) (hf : ∀ x, -1000000000 ≤ f x ∧ f x ≤ 1000000000)
    (hp : ∀ (W : World) (mb : Nat), Below w.heap.size w W → W.ownsMap Tryz.prog 3 (plainElem (H := Unit) Tryz.prog 3) mb 0 (mapOf []) → Calls Tryz.prog K (#[putV M mb] ++ cap) W fun e w' => e = .returned (.tuple #[]) ∧ ∃ l nn, Puts W w' mb f c [] 0 l nn) :
    Calls Tryz.prog 20 #[.int .i64 M, .func (.func K) #[] cap] w fun e w' => ∃ dn v, e = .returned (.tuple #[.agg #[.int .i64 dn, v], .nilIface]) ∧ LogBy w.heap.size M f w' dn v ∧ Below w.heap.size w w' := by
  obtain ⟨W0, hW0⟩ : ∃ W0, W0 = w.alloc (.cells #[.int .i64 0, .slice none 0 0] 27) := ⟨_, rfl⟩
  have hb0 : Below w.heap.size w W0 := by rw [hW0]; exact new_below _ _
  have hres : ∀ W, Below W0.heap.size W0 W → W.cell? ⟨w.heap.size, 0, none⟩ = some (.int .i64 0) ∧ W.cell? ⟨w.heap.size, 1, none⟩ = some (.slice none 0 0) ∧ W.frozen? ⟨w.heap.size, 0, none⟩ = false ∧ W.frozen? ⟨w.heap.size, 1, none⟩ = false := fun W hb => by
    rw [hW0] at hb
    obtain ⟨q0, q1, q2, q3⟩ := res_past hb
    exact ⟨q0, q1, q2, q3⟩
  have hsz : W0.heap.size = w.heap.size + 1 := by rw [hW0]; simp
  have hov := newSum_any (M : Int) W0
  have HP := Hid.mk' hp
  have HF := Hid.mk' hf
  have HB0 := Hid.mk' hb0
  have HRES := Hid.mk' hres
  have HW0 := Hid.mk' hW0
  have HSZ := Hid.mk' hsz
  clear hp hf hb0 hres hW0 hsz
  go_enter Tryz.func20, Tryz.ntmps20
  go_wp2_with fail
  rw [← HW0.out]
  refine hov.mono ?_
  clear hov
  rintro e w1 ⟨rfl, hown1, hb1⟩
  have HB1 := Hid.mk' hb1
  have ho1 : (w1.alloc (.cells #[.int .i64 M, .map (some (W0.heap.size + 1))] 80)).ownsMap Tryz.prog 3 (plainElem (H := Unit) Tryz.prog 3) (W0.heap.size + 1) 0 (mapOf []) := ownsMap_later hown1 (Below.heap_alloc _ _ _ hown1.lt)
  have HX1 : Hid (w1.cell? ⟨W0.heap.size + 1, 0, none⟩ = none) := map_no_cell hown1
  have hlt1 := hown1.lt
  obtain ⟨W1, hW1⟩ : ∃ W1, W1 = w1.alloc (.cells #[.int .i64 M, .map (some (W0.heap.size + 1))] 80) := ⟨_, rfl⟩
  have hs0 : W1.cell? ⟨w1.heap.size, 0, none⟩ = some (.int .i64 M) := by rw [hW1]; simp
  have hs1 : W1.cell? ⟨w1.heap.size, 1, none⟩ = some (.map (some (W0.heap.size + 1))) := by rw [hW1]; simp
  have HB2 : Hid (Below W0.heap.size W0 W1) := by rw [hW1]; exact below_chain hb1 (new_below _ _)
  rw [← hW1] at ho1
  have HO1 := Hid.mk' ho1
  have HS := Hid.mk' (And.intro hs0 hs1)
  have HW1 := Hid.mk' hW1
  have HLT := Hid.mk' hlt1
  clear hown1 hb1 ho1 hs0 hs1 hW1 hlt1
  go_upto_region 2 with fail
  rw [← HW1.out]
  obtain ⟨hs0, hs1⟩ := HS.out
  have hcall := HP.out W1 (W0.heap.size + 1) (below_chain HB0.out HB2.out) HO1.out
  unfold putV at hcall
  clear HP
  go_wp2_with fail
  refine hcall.mono ?_
  clear hcall hs0 hs1
  rintro e w2 ⟨rfl, l, nn, hpt⟩
  have hne : w1.heap.size ≠ W0.heap.size + 1 := by have := HLT.out; omega
  have hs0 := cell_beside hpt.grow HS.out.1 hne
  have hs1 := cell_beside hpt.grow HS.out.2 hne
  have hz1 := HB2.out.size
  have hlw : w.heap.size < W0.heap.size := by have := HSZ.out; omega
  have HB3 : Hid (Below W0.heap.size W0 w2) := HB2.out.grown hpt.grow HB2.out.size (fun k e => by cases e; omega)
  have hval : ∀ x, atL l x = f x := fun x => by have := hpt.val x; simpa [atL] using this
  have hlen : l.length ≤ 90000 := by have := hpt.len; simp at this; omega
  have hG := gcdL_list (D := M) hpt.rise
  have hfit : ∀ e ∈ l, (e.2.tdiv (gList M (l.map Prod.snd) : Int)).natAbs ≤ 1099511627776 := fun e he => by
    have h1 := HF.out e.1
    rw [← hval, atL_mem hpt.rise he] at h1
    rw [Int.natAbs_tdiv]
    exact Nat.le_trans (Nat.div_le_self _ _) (by omega)
  have ht := told_list (M : Int) (W0.heap.size + 1) nn l w2 hpt.own hpt.rise hpt.keys (by omega) (fun x => by rw [hval]; have := HF.out x; omega) (by omega) (by omega) _ hG (by rw [← Int.natCast_ediv]; exact Int.le_trans (Int.ofNat_le.2 (Nat.div_le_self _ _)) (by omega)) hfit
  have HLB : Hid (Rising l ∧ (∀ x, atL l x = f x) ∧ l.length ≤ 90000) := ⟨hpt.rise, hval, hlen⟩
  have HLW := Hid.mk' hlw
  clear hpt hval hlen hG hfit HF hz1 hlw HS HO1 HW1
  go_wp2_with fail
  refine ht.mono ?_
  clear ht hs0 hs1
  rintro e w3 ⟨v, rfl, hrow, hb3⟩
  obtain ⟨c0, c1, q0, q1⟩ := HRES.out w3 (below_chain HB3.out hb3)
  have HBW := Hid.mk' (below_chain HB0.out (below_chain HB3.out hb3))
  have HZ : Hid (w.heap.size < w2.heap.size) := by have h1 := HLW.out; have h2 := HB3.out.size; show _ < _; omega
  have HROW := Hid.mk' hrow
  obtain ⟨ad, n', c', rfl⟩ : ∃ ad n' c', v = .slice ad n' c' := by
    rcases hrow.2 with ⟨rfl, _⟩ | ⟨gg, cap', cur', rfl, _⟩
    · exact ⟨_, _, _, rfl⟩
    · exact ⟨_, _, _, rfl⟩
  clear hrow hb3 HRES
  go_wp2_with fail
  refine bodyPost_ret (v := .tuple #[.agg #[.int .i64 ((M : Int) / (gList M (l.map Prod.snd) : Int)), .slice ad n' c'], .nilIface]) (by simp [results, Tryz.results20, go_sem, c0, c1]) rfl ⟨_, .slice ad n' c', rfl, ⟨l, HLB.out.1, HLB.out.2.1, HLB.out.2.2, by simp, ?_⟩, ?_⟩
  · have h1 := ownsRow_setCell_below HROW.out (a := ⟨w.heap.size, 0, none⟩) HZ.out (.int .i64 ((M : Int) / (gList M (l.map Prod.snd) : Int)))
    have h2 := ownsRow_setCell_below h1 (a := ⟨w.heap.size, 1, none⟩) HZ.out (.slice ad n' c')
    exact row_base h2 (Nat.le_of_lt HZ.out)
  · exact (HBW.out.setCell (by simp) _).setCell (by simp) _

/-- Two that are told of one sum are the same. -/
theorem isLog_by {M b1 b2 : Nat} {f g : Int → Int} {w : World} {d1 d2 : Int} {v1 v2 : Value} (h1 : LogBy b1 M f w d1 v1) (h2 : LogBy b2 M g w d2 v2) (he : ∀ x, f x = g x) :
    Calls Tryz.prog 10 #[.agg #[.int .i64 d1, v1], .nilIface, .agg #[.int .i64 d2, v2], .int .i64 0] w fun e w' => e = .returned (.bool true) ∧ Below w.heap.size w w' := by
  obtain ⟨l1, r1, a1, n1, rfl, o1⟩ := h1.list
  obtain ⟨l2, r2, a2, n2, rfl, o2⟩ := h2.list
  have hx : ∀ x, atL l1 x = atL l2 x := fun x => by rw [a1, a2, he]
  rw [gList_same r1 r2 hx] at o1 ⊢
  rw [over_same r1 r2 hx] at o1
  exact isLog_ok _ _ _ _ _ _ w o1 o2 (by have := length_over l2 (gList M (l2.map Prod.snd)); omega)
end Go.Proofs.YtdhbphdgdkfhfaaGreatDoor

/- dist.Entropy at any weights. -/
namespace Go.Proofs.YtdhbphdgdkfhfaaGreatDoor
open Go.RowKit Go.Maps

theorem new_one {w w1 : World} {x : Value} {t : TypeId} (hb : Below (w.alloc (.cells #[x] t)).heap.size (w.alloc (.cells #[x] t)) w1) : w1.cell? ⟨w.heap.size, 0, none⟩ = some x := by
  have c0 : (w.alloc (.cells #[x] t)).cell? ⟨w.heap.size, 0, none⟩ = some x := by rw [World.cell?_alloc_at _ _ _ _ rfl]; rfl
  exact (cell_past c0 hb).2

set_option maxRecDepth 100000 in
theorem Entropy_parts (den : Int) (mb B b o cap n : Nat) (z : Nat → Int) (w : World) (hown : w.ownsMap Tryz.prog 3 (plainElem (H := Unit) Tryz.prog 3) mb 0 (mapOf [])) (hB : w.cell? ⟨B, 0, none⟩ = some (.slice (some ⟨b, o, none⟩) n cap)) (h : RowAt w b o n z) (hz : ∀ i, i < n → 0 ≤ z i) (hs : sumN z n ≤ 4096) (hn : n ≤ 256) :
    Calls Tryz.prog 22 #[putV den mb, .pointer (some ⟨B, 0, none⟩)] w fun e w' => e = .returned (.tuple #[]) ∧ ∃ l nn, Puts w w' mb (fun x => sumN (entV z (sumN z n).toNat x) n) (2 * n) [] 0 l nn := by
  have hp := putEntropy_some den mb 0 b o cap n z [] w hown List.Pairwise.nil (fun e he => by cases he) (fun x => by simp [atL]) (by omega) h hz hs hn
  clear hown h hz hs
  unfold putV at hp ⊢
  go_enter Tryz.func22, Tryz.ntmps22
  go_wp2_with fail
  refine hp.mono ?_
  clear hp
  rintro e w1 ⟨rfl, l, nn, hpt⟩
  have HP := Hid.mk' hpt
  clear hpt
  go_wp2_with fail
  go_end0
  exact ⟨rfl, l, nn, HP.out⟩

theorem ent_bound {z : Nat → Int} {n N : Nat} (hz : ∀ i, i < n → 0 ≤ z i ∧ z i ≤ 4096) (hN : N ≤ 4096) (hn : n ≤ 256) (x : Int) : -1000000000 ≤ sumN (entV z N x) n ∧ sumN (entV z N x) n ≤ 1000000000 := by
  have h3 := sumN_bound (f := entV z N x) (B := 200000) (n := n) (fun i hi => entV_le x (hz i hi) hN)
  have : (n : Int) * 200000 ≤ 51200000 := by omega
  omega

set_option maxRecDepth 100000 in
set_option maxHeartbeats 1000000 in
theorem Entropy_ok (a : Nat → Addr) (b o cap n N : Nat) (z : Nat → Int) (w : World) (hE : Errs w a) (h : RowAt w b o n z) (h0 : weightsErr z n = 0) (hN : sumN z n = N) (hz : ∀ i, i < n → 0 ≤ z i) (hn : n ≤ 16) (hN1 : 1 ≤ N) (hN6 : N ≤ 4096) (h0n : 0 < n) :
    Calls Tryz.prog 8 #[.slice (some ⟨b, o, none⟩) n cap] w fun e w' => ∃ dn v, e = .returned (.tuple #[.agg #[.int .i64 dn, v], .nilIface]) ∧ LogBy w.heap.size N (fun x => sumN (entV z N x) n) w' dn v ∧ Below w.heap.size w w' := by
  have hzi : ∀ i, i < n → 0 ≤ z i ∧ z i ≤ 4096 := fun i hi => ⟨hz i hi, by have := sumN_ge hz hi; omega⟩
  have hle : ∀ k, k ≤ n → 0 ≤ sumN z k ∧ sumN z k ≤ 4096 := fun k hk => ⟨sumN_nonneg (fun i hi => hz i (by omega)), by have := sumN_mono hz hk; omega⟩
  obtain ⟨W0, hW0⟩ : ∃ W0, W0 = (w.alloc (.cells #[.slice (some ⟨b, o, none⟩) n cap] 22)).alloc (.cells #[.int .i64 0, .slice none 0 0] 27) := ⟨_, rfl⟩
  have hb0 : Below w.heap.size w W0 := by rw [hW0]; exact below_chain (new_below _ _) (new_below _ _)
  have hbox : W0.cell? ⟨w.heap.size, 0, none⟩ = some (.slice (some ⟨b, o, none⟩) n cap) := by rw [hW0]; exact new_one (new_below _ _)
  have hres : ∀ W, Below W0.heap.size W0 W → W.cell? ⟨w.heap.size + 1, 0, none⟩ = some (.int .i64 0) ∧ W.cell? ⟨w.heap.size + 1, 1, none⟩ = some (.slice none 0 0) ∧ W.frozen? ⟨w.heap.size + 1, 0, none⟩ = false ∧ W.frozen? ⟨w.heap.size + 1, 1, none⟩ = false := fun W hb => by
    rw [hW0] at hb
    have := res_past hb
    simpa using this
  have hv := Valid_weights a (.slice (some ⟨b, o, none⟩) n cap) n z W0 (hE.below hb0) (Or.inr ⟨b, o, cap, rfl, h0n, h.later hb0⟩) (by omega)
  rw [h0] at hv
  have ht := total_some b o cap n z W0 (h.later hb0) (fun k hk => by have := hle k hk; omega) (fun i hi => by have := hzi i hi; omega) (by omega)
  rw [hN] at ht
  have hso := sumOver_any 22 #[.pointer (some ⟨w.heap.size, 0, none⟩)] N (2 * n) (fun x => sumN (entV z N x) n) W0 (enters_of Tryz.func22 (by kernel_rfl) rfl) hN1 hN6 (by omega) (fun x => ent_bound hzi hN6 (by omega) x)
    (fun W mb hb ho => by
      have := Entropy_parts N mb w.heap.size b o cap n z W ho (cell_past hbox hb).2 ((h.later hb0).later hb) hz (by omega) (by omega)
      rw [hN, Int.toNat_natCast] at this
      exact this)
  have HB0 := Hid.mk' hb0
  have HRES := Hid.mk' hres
  have HW0 := Hid.mk' hW0
  have hlt : w.heap.size + 1 < W0.heap.size := by rw [hW0]; simp
  have HLT := Hid.mk' hlt
  clear hE h hb0 hres hW0 hzi hle hz hN h0 hlt
  go_enter Tryz.func8, Tryz.ntmps8
  go_upto_region 1 with fail
  rw [← HW0.out]
  go_wp2_with fail
  refine hv.mono ?_
  clear hv
  rintro e w1 ⟨rfl, hw1⟩
  rw [hw1]
  clear hw1
  rw [errV_zero]
  go_wp2_with (first
    | (go_at_call 21; refine ht.mono ?_; rintro e w2 ⟨rfl, hw2⟩; rw [hw2]; clear hw2)
    | (go_at_call 20; refine hso.mono ?_; rintro e w3 ⟨dn, v, rfl, hlb, hb3⟩; obtain ⟨c0, c1, q0, q1⟩ := HRES.out w3 hb3; have HBW := Hid.mk' (below_chain HB0.out hb3); have HLB := Hid.mk' hlb; obtain ⟨ad, n', c', rfl⟩ := hlb.form; clear hlb))
  refine bodyPost_ret (v := .tuple #[.agg #[.int .i64 dn, .slice ad n' c'], .nilIface]) (by simp [results, Tryz.results8, go_sem, c0, c1]) rfl ⟨_, .slice ad n' c', rfl, (HLB.out.set HLT.out _ _).lower (by have := HLT.out; omega), ?_⟩
  exact (HBW.out.setCell (by simp) _).setCell (by simp) _

set_option maxRecDepth 100000 in
set_option maxHeartbeats 1000000 in
theorem Entropy_bad (a : Nat → Addr) (v : Value) (n : Nat) (z : Nat → Int) (w : World) (hE : Errs w a) (h : NumsAt w v n z) (hn : n ≤ 400) (h0 : weightsErr z n ≠ 0) :
    Calls Tryz.prog 8 #[v] w fun e w' => e = .returned (.tuple #[.agg #[.int .i64 0, .slice none 0 0], errV a (weightsErr z n)]) ∧ Below w.heap.size w w' := by
  obtain ⟨ad, cap, rfl⟩ := h.form
  obtain ⟨W0, hW0⟩ : ∃ W0, W0 = (w.alloc (.cells #[.slice ad n cap] 22)).alloc (.cells #[.int .i64 0, .slice none 0 0] 27) := ⟨_, rfl⟩
  have hb0 : Below w.heap.size w W0 := by rw [hW0]; exact below_chain (new_below _ _) (new_below _ _)
  have hbox : W0.cell? ⟨w.heap.size, 0, none⟩ = some (.slice ad n cap) := by rw [hW0]; exact new_one (new_below _ _)
  have hres : W0.cell? ⟨w.heap.size + 1, 0, none⟩ = some (.int .i64 0) ∧ W0.cell? ⟨w.heap.size + 1, 1, none⟩ = some (.slice none 0 0) ∧ W0.frozen? ⟨w.heap.size + 1, 0, none⟩ = false ∧ W0.frozen? ⟨w.heap.size + 1, 1, none⟩ = false := by
    rw [hW0]
    simp
  have hv := Valid_weights a (.slice ad n cap) n z W0 (hE.below hb0) (h.later hb0) (by omega)
  rw [errV_pos a h0] at hv ⊢
  generalize a (weightsErr z n - 1) = ea at hv ⊢
  obtain ⟨c0, c1, q0, q1⟩ := hres
  have HB0 := Hid.mk' hb0
  have HW0 := Hid.mk' hW0
  clear hE h hb0 hW0 h0
  go_enter Tryz.func8, Tryz.ntmps8
  go_upto_region 1 with fail
  rw [← HW0.out]
  go_wp2_with (go_at_call 19; refine hv.mono ?_; rintro e w1 ⟨rfl, hw1⟩; rw [hw1]; clear hw1)
  refine bodyPost_ret (v := .tuple #[.agg #[.int .i64 0, .slice none 0 0], .iface 155 (.pointer (some ea))]) (by simp [results, Tryz.results8, go_sem, c0, c1]) rfl ⟨rfl, ?_⟩
  exact (HB0.out.setCell (by simp) _).setCell (by simp) _
end Go.Proofs.YtdhbphdgdkfhfaaGreatDoor

/- Two lists of weights: the program's and the document's errors. -/
namespace Go.Proofs.YtdhbphdgdkfhfaaGreatDoor
open Go.RowKit

def twoErr (p : Nat → Int) (n : Nat) (q : Nat → Int) (m : Nat) : Nat := if weightsErr p n ≠ 0 then weightsErr p n else if weightsErr q m ≠ 0 then weightsErr q m else if n ≠ m then 3 else 0

set_option maxRecDepth 100000 in
set_option maxHeartbeats 1000000 in
theorem TwoError_any (v u : Value) (n m : Nat) (p q : Nat → Int) (w : World) (h : NumsAt w v n p) (k : NumsAt w u m q) (hn : n ≤ 1000000) (hm : m ≤ 1000000) :
    Calls Tryz.prog 11 #[v, u] w fun e w' => e = .returned (.int .i64 (twoErr p n q m : Int)) ∧ w' = w := by
  have h1 := WeightsError_any v n p w h hn
  have h2 := WeightsError_any u m q w k hm
  obtain ⟨ad, cap, rfl⟩ := h.form
  obtain ⟨ad', cap', rfl⟩ := k.form
  clear h k
  have HT : Hid (twoErr p n q m = if weightsErr p n ≠ 0 then weightsErr p n else if weightsErr q m ≠ 0 then weightsErr q m else if n ≠ m then 3 else 0) := rfl
  generalize twoErr p n q m = r at HT ⊢
  generalize weightsErr p n = c at h1 HT
  generalize weightsErr q m = d at h2 HT
  by_cases hc : c = 0
  · subst hc
    by_cases hd : d = 0
    · subst hd
      by_cases hnm : n = m
      · subst hnm
        have HR : Hid (r = 0) := by show _ = _; rw [HT.out]; simp
        clear HT
        go_enter Tryz.func11, Tryz.ntmps11
        go_wp2_with fail
        refine h1.mono ?_
        rintro e w1 ⟨rfl, hw1⟩
        rw [hw1]
        clear hw1 h1
        go_wp2_with fail
        refine h2.mono ?_
        rintro e w1 ⟨rfl, hw1⟩
        rw [hw1]
        clear hw1 h2
        go_wp2_with fail
        go_ret
        exact ⟨by rw [HR.out]; rfl, rfl⟩
      · have HR : Hid (r = 3) := by show _ = _; rw [HT.out]; simp [hnm]
        have hb : ((n : Int) == (m : Int)) = false := by simp; omega
        clear HT
        go_enter Tryz.func11, Tryz.ntmps11
        go_wp2_with fail
        refine h1.mono ?_
        rintro e w1 ⟨rfl, hw1⟩
        rw [hw1]
        clear hw1 h1
        go_wp2_with fail
        refine h2.mono ?_
        rintro e w1 ⟨rfl, hw1⟩
        rw [hw1]
        clear hw1 h2
        go_wp2_with fail
        go_ret
        exact ⟨by rw [HR.out]; rfl, rfl⟩
    · have HR : Hid (r = d) := by show _ = _; rw [HT.out]; simp [hd]
      have hb : ((d : Int) == 0) = false := by simpa using hd
      clear HT
      go_enter Tryz.func11, Tryz.ntmps11
      go_wp2_with fail
      refine h1.mono ?_
      rintro e w1 ⟨rfl, hw1⟩
      rw [hw1]
      clear hw1 h1
      go_wp2_with fail
      refine h2.mono ?_
      rintro e w1 ⟨rfl, hw1⟩
      rw [hw1]
      clear hw1 h2
      go_wp2_with fail
      go_ret
      exact ⟨by rw [HR.out]; rfl, rfl⟩
  · have HR : Hid (r = c) := by show _ = _; rw [HT.out]; simp [hc]
    have hb : ((c : Int) == 0) = false := by simpa using hc
    clear HT
    go_enter Tryz.func11, Tryz.ntmps11
    go_wp2_with (go_at_call 6; refine h1.mono ?_; rintro e w1 ⟨rfl, hw1⟩; rw [hw1]; clear hw1)
    go_ret
    exact ⟨by rw [HR.out]; rfl, rfl⟩

set_option maxRecDepth 100000 in
set_option maxHeartbeats 1000000 in
theorem checkPair_any (a : Nat → Addr) (v u : Value) (n m : Nat) (p q : Nat → Int) (w : World) (hE : Errs w a) (h : NumsAt w v n p) (k : NumsAt w u m q) (hn : n ≤ 1000000) (hm : m ≤ 1000000) :
    Calls Tryz.prog 28 #[v, u] w fun e w' => e = .returned (errV a (twoErr p n q m)) ∧ w' = w := by
  have h1 := Valid_weights a v n p w hE h hn
  have h2 := Valid_weights a u m q w hE k hm
  obtain ⟨ad, cap, rfl⟩ := h.form
  obtain ⟨ad', cap', rfl⟩ := k.form
  have e2 := hE.c2
  clear h k hE
  have HT : Hid (twoErr p n q m = if weightsErr p n ≠ 0 then weightsErr p n else if weightsErr q m ≠ 0 then weightsErr q m else if n ≠ m then 3 else 0) := rfl
  generalize twoErr p n q m = r at HT ⊢
  generalize weightsErr p n = c at h1 HT
  generalize weightsErr q m = d at h2 HT
  by_cases hc : c = 0
  · subst hc
    rw [errV_zero] at h1
    by_cases hd : d = 0
    · subst hd
      rw [errV_zero] at h2
      by_cases hnm : n = m
      · subst hnm
        have HR : Hid (r = 0) := by show _ = _; rw [HT.out]; simp
        clear HT
        go_enter Tryz.func28, Tryz.ntmps28
        go_wp2_with fail
        refine h1.mono ?_
        rintro e w1 ⟨rfl, hw1⟩
        rw [hw1]
        clear hw1 h1
        go_wp2_with fail
        refine h2.mono ?_
        rintro e w1 ⟨rfl, hw1⟩
        rw [hw1]
        clear hw1 h2
        go_wp2_with fail
        go_ret
        exact ⟨by rw [HR.out]; rfl, rfl⟩
      · have HR : Hid (r = 3) := by show _ = _; rw [HT.out]; simp [hnm]
        have hb : ((n : Int) == (m : Int)) = false := by simp; omega
        clear HT
        go_enter Tryz.func28, Tryz.ntmps28
        go_wp2_with fail
        refine h1.mono ?_
        rintro e w1 ⟨rfl, hw1⟩
        rw [hw1]
        clear hw1 h1
        go_wp2_with fail
        refine h2.mono ?_
        rintro e w1 ⟨rfl, hw1⟩
        rw [hw1]
        clear hw1 h2
        go_wp2_with fail
        go_ret
        exact ⟨by rw [HR.out]; rfl, rfl⟩
    · have HR : Hid (r = d) := by show _ = _; rw [HT.out]; simp [hd]
      have HD := Hid.mk' (errV_pos a hd)
      rw [HD.out] at h2
      clear HT
      go_enter Tryz.func28, Tryz.ntmps28
      go_wp2_with fail
      refine h1.mono ?_
      rintro e w1 ⟨rfl, hw1⟩
      rw [hw1]
      clear hw1 h1
      go_wp2_with fail
      refine h2.mono ?_
      rintro e w1 ⟨rfl, hw1⟩
      rw [hw1]
      clear hw1 h2
      go_wp2_with fail
      go_ret
      exact ⟨by rw [HR.out, HD.out]; rfl, rfl⟩
  · have HR : Hid (r = c) := by show _ = _; rw [HT.out]; simp [hc]
    have HD := Hid.mk' (errV_pos a hc)
    rw [HD.out] at h1
    clear HT
    go_enter Tryz.func28, Tryz.ntmps28
    go_wp2_with (go_at_call 19; refine h1.mono ?_; rintro e w1 ⟨rfl, hw1⟩; rw [hw1]; clear hw1)
    go_ret
    exact ⟨by rw [HR.out, HD.out]; rfl, rfl⟩
theorem twoErr_ok {p q : Nat → Int} {n m : Nat} (h : twoErr p n q m = 0) : n = m ∧ n ≤ 16 ∧ OkW p n ∧ OkW q m := by
  unfold twoErr at h
  by_cases h1 : weightsErr p n = 0
  · by_cases h2 : weightsErr q m = 0
    · by_cases h3 : n = m
      · refine ⟨h3, ?_⟩
        unfold weightsErr at h1 h2
        by_cases h16 : 16 < n
        · rw [if_pos h16] at h1; cases h1
        · rw [if_neg h16] at h1
          rw [← h3, if_neg h16] at h2
          rw [← h3]
          exact ⟨by omega, listErr_ok h1, listErr_ok h2⟩
      · simp [h1, h2, h3] at h
    · simp [h1, h2] at h
  · simp [h1] at h
end Go.Proofs.YtdhbphdgdkfhfaaGreatDoor

/- Cells beside a map. -/
namespace Go.Proofs.YtdhbphdgdkfhfaaGreatDoor
open Go.RowKit Go.Maps

/-- A cell beside a map's block. -/
theorem cell_side {w w' : World} {mb nn B o : Nat} {v : Value} {D : DataW Unit} {k : TypeId} {R : Value → Option (DataW Unit × List MemPlace)} (hm : w.ownsMap Tryz.prog k R mb nn D) (hg : w.grownBy w' (some mb)) (hc : w.cell? ⟨B, o, none⟩ = some v) : w'.cell? ⟨B, o, none⟩ = some v := by
  refine cell_beside hg hc ?_
  rintro rfl
  rw [map_no_cell hm] at hc
  cases hc

end Go.Proofs.YtdhbphdgdkfhfaaGreatDoor

/- dist.Divergence. -/
namespace Go.Proofs.YtdhbphdgdkfhfaaGreatDoor
open Go.RowKit Go.Maps

/-- What the i-th place puts. -/
def divV (p q : Nat → Int) (P Q : Nat) (x : Int) (i : Nat) : Int := p i * multI x (p i).toNat + -(p i) * multI x P + -(p i) * multI x (q i).toNat + p i * multI x Q
theorem divV_le {p q : Nat → Int} {P Q i : Nat} (x : Int) (hp : 0 ≤ p i ∧ p i ≤ 4096) (hq : 0 ≤ q i ∧ q i ≤ 4096) (hP : P ≤ 4096) (hQ : Q ≤ 4096) : -400000 ≤ divV p q P Q x i ∧ divV p q P Q x i ≤ 400000 := by
  unfold divV
  have h1 := mul_weight (t := p i) (by omega) (multI_small x (n := (p i).toNat) (by omega))
  have h2 := mul_weight (t := -(p i)) (by omega) (multI_small x (n := P) (by omega))
  have h3 := mul_weight (t := -(p i)) (by omega) (multI_small x (n := (q i).toNat) (by omega))
  have h4 := mul_weight (t := p i) (by omega) (multI_small x (n := Q) (by omega))
  omega
set_option maxRecDepth 100000 in
set_option maxHeartbeats 4000000 in
theorem Divergence_parts (den : Int) (mb Bp BP Bq BQ b o cap b' o' cap' n P Q : Nat) (p q : Nat → Int) (w : World) (hown : w.ownsMap Tryz.prog 3 (plainElem (H := Unit) Tryz.prog 3) mb 0 (mapOf []))
    (cp : w.cell? ⟨Bp, 0, none⟩ = some (.slice (some ⟨b, o, none⟩) n cap)) (cP : w.cell? ⟨BP, 0, none⟩ = some (.int .i64 P)) (cq : w.cell? ⟨Bq, 0, none⟩ = some (.slice (some ⟨b', o', none⟩) n cap')) (cQ : w.cell? ⟨BQ, 0, none⟩ = some (.int .i64 Q))
    (h : RowAt w b o n p) (k : RowAt w b' o' n q) (hp : ∀ i, i < n → 0 ≤ p i ∧ p i ≤ 4096) (hq : ∀ i, i < n → 0 ≤ q i ∧ q i ≤ 4096) (hpq : ∀ i, i < n → 0 < p i → 0 < q i) (hP : 1 ≤ P ∧ P ≤ 4096) (hQ : 1 ≤ Q ∧ Q ≤ 4096) (hn : n ≤ 16) :
    Calls Tryz.prog 29 #[putV den mb, .pointer (some ⟨Bp, 0, none⟩), .pointer (some ⟨BP, 0, none⟩), .pointer (some ⟨Bq, 0, none⟩), .pointer (some ⟨BQ, 0, none⟩)] w fun e w' => e = .returned (.tuple #[]) ∧ ∃ l nn, Puts w w' mb (fun x => sumN (divV p q P Q x) n) (4 * n) [] 0 l nn := by
  have HP0 : Hid (Puts w w mb (fun x => sumN (divV p q P Q x) 0) (4 * 0) [] 0 [] 0) := ⟨hown, List.Pairwise.nil, (fun x => by simp [sumN]), (fun e he => by cases he), by omega, by simp, grown_refl _ _⟩
  have HROW := Hid.mk' (fun (wr : World) (hg : w.grownBy wr (some mb)) => And.intro (h.beside hown hg) (And.intro (k.beside hown hg) (And.intro (cell_side hown hg cP) (And.intro (cell_side hown hg cq) (cell_side hown hg cQ)))))
  have HPI := Hid.mk' hp
  have HQI := Hid.mk' hq
  have HPQ := Hid.mk' hpq
  clear hown h k hp hq hpq cP cq cQ
  unfold putV
  go_enter Tryz.func29, Tryz.ntmps29
  go_wp2_with fail
  go_loopw [6, 7, 10] (fun _ _ i wr => ∃ (k nn : Nat) (l : List (Int × Int)), k ≤ n ∧ i = .int .i64 k ∧ Hid (Puts w wr mb (fun x => sumN (divV p q P Q x) k) (4 * k) [] 0 l nn)) (fun _ _ i _ => n - (intOf i).toNat)
  case atStart => exact ⟨0, 0, [], Nat.zero_le _, rfl, HP0⟩
  case round =>
    clear HP0 cp
    obtain ⟨k, nn, l, hk, rfl, HP⟩ := hrel
    rcases Nat.lt_or_ge k n with h1 | h1
    · have hc := (HROW.out _ HP.out.grow).1 k h1
      have hkn : (k : Int) < (n : Int) := by omega
      have hpk := HPI.out k h1
      have hqk := HQI.out k h1
      have hpqk := HPQ.out k h1
      have HV : Hid (∀ x, sumN (divV p q P Q x) (k + 1) = sumN (divV p q P Q x) k + (p k * multI x (p k).toNat + (-(p k) * multI x P + (-(p k) * multI x (q k).toNat + p k * multI x Q)))) := fun x => by
        show sumN (divV p q P Q x) k + divV p q P Q x k = _
        unfold divV
        omega
      have HBD : Hid (∀ x, -100000000 ≤ atL l x ∧ atL l x ≤ 100000000) := fun x => by
        rw [HP.out.val]
        have h3 := sumN_bound (f := divV p q P Q x) (B := 400000) (n := k) (fun i hi => divV_le x (HPI.out i (by omega)) (HQI.out i (by omega)) hP.2 hQ.2)
        have : (k : Int) * 400000 ≤ 6400000 := by omega
        simp only [atL]
        omega
      have hcq := (HROW.out _ HP.out.grow).2.1 k h1
      obtain ⟨y, hy⟩ := Int.eq_ofNat_of_zero_le hpk.1
      obtain ⟨u, hu⟩ := Int.eq_ofNat_of_zero_le hqk.1
      rw [hy] at hc hpk HV hpqk
      rw [hu] at hqk HV hpqk hcq
      simp only [Int.toNat_natCast] at HV
      have HCQ : Hid (∀ W, w.grownBy W (some mb) → W.cell? ⟨b', o' + k, none⟩ = some (.int .i64 (u : Int))) := fun W hg => by rw [← hu]; exact (HROW.out W hg).2.1 k h1
      have hy6 : y ≤ 4096 := by have := hpk.2; omega
      have hu6 : u ≤ 4096 := by have := hqk.2; omega
      have hyu : y ≠ 0 → 1 ≤ u := fun h => by have := hpqk (by omega); omega
      have hnn1 : nn ≤ 10000 := by have := HP.out.cnt; omega
      have MW := Hid.mk' (fun (x : Int) (m : Nat) (hm : m ≤ 4096) => mul_weight (t := (y : Int)) (by omega) (multI_small x (n := m) (by omega)))
      have MN := Hid.mk' (fun (x : Int) (m : Nat) (hm : m ≤ 4096) => mul_weight (t := -(y : Int)) (by omega) (multI_small x (n := m) (by omega)))
      clear hy hu hpk hqk hpqk hcq
      have HP1 := Hid.mk' (Put_by den (y : Int) mb y nn l wr HP.out.own HP.out.rise HP.out.keys (fun x => by have := HBD.out x; omega) (by omega) (fun h => by omega) (by omega) (by omega))
      go_wp2_with fail
      refine HP1.out.mono ?_
      clear HP1 hc
      rintro e w2 ⟨rfl, l2, nn2, hp2⟩
      have hg2 := grown_two HP.out.grow hp2.grow
      have cP2 := (HROW.out _ hg2).2.2.1
      have B2 : Hid (∀ x, -100100000 ≤ atL l2 x ∧ atL l2 x ≤ 100100000) := fun x => by rw [hp2.val]; have h2 := HBD.out x; have h3 := MW.out x y hy6; omega
      have hn2 : nn2 ≤ 10020 := by have := hp2.cnt; omega
      have HP2 := Hid.mk' (Put_by den (-(y : Int)) mb P nn2 l2 w2 hp2.own hp2.rise hp2.keys (fun x => by have := B2.out x; omega) (by omega) (fun _ => hP.1) (by omega) (by omega))
      have HQ2 := Hid.mk' (HP.out.trans hp2)
      clear hp2 hg2
      go_wp2_with fail
      refine HP2.out.mono ?_
      clear HP2 cP2
      rintro e w3 ⟨rfl, l3, nn3, hp3⟩
      have hg3 := grown_two HQ2.out.grow hp3.grow
      have cq3 := (HROW.out _ hg3).2.2.2.1
      have cu3 := HCQ.out _ hg3
      have B3 : Hid (∀ x, -100200000 ≤ atL l3 x ∧ atL l3 x ≤ 100200000) := fun x => by rw [hp3.val]; have h2 := B2.out x; have h3 := MN.out x P hP.2; omega
      have hn3 : nn3 ≤ 10040 := by have := hp3.cnt; omega
      have HP3 := Hid.mk' (Put_by den (-(y : Int)) mb u nn3 l3 w3 hp3.own hp3.rise hp3.keys (fun x => by have := B3.out x; omega) (by omega) (fun h => hyu (by omega)) (by omega) (by omega))
      have HQ3 := Hid.mk' (HQ2.out.trans hp3)
      clear hp3 hg3 HQ2
      go_wp2_with fail
      refine HP3.out.mono ?_
      clear HP3 cq3 cu3
      rintro e w4 ⟨rfl, l4, nn4, hp4⟩
      have hg4 := grown_two HQ3.out.grow hp4.grow
      have cQ4 := (HROW.out _ hg4).2.2.2.2
      have B4 : Hid (∀ x, -100300000 ≤ atL l4 x ∧ atL l4 x ≤ 100300000) := fun x => by rw [hp4.val]; have h2 := B3.out x; have h3 := MN.out x u hu6; omega
      have hn4 : nn4 ≤ 10060 := by have := hp4.cnt; omega
      have HP4 := Hid.mk' (Put_by den (y : Int) mb Q nn4 l4 w4 hp4.own hp4.rise hp4.keys (fun x => by have := B4.out x; omega) (by omega) (fun _ => hQ.1) (by omega) (by omega))
      have HQ4 := Hid.mk' (HQ3.out.trans hp4)
      clear hp4 hg4 HQ3
      go_wp2_with fail
      refine HP4.out.mono ?_
      clear HP4 cQ4
      rintro e w5 ⟨rfl, l5, nn5, hp5⟩
      have HQ5 := Hid.mk' ((HQ4.out.trans hp5).congr (d := 4 * (k + 1)) (by omega) (g := fun x => sumN (divV p q P Q x) (k + 1)) (fun x => by rw [HV.out x]; omega))
      clear hp5 HQ4
      go_wp2_with fail
      exact ⟨⟨k + 1, nn5, l5, h1, by go_num, HQ5⟩, by simp [intOf]; omega⟩
    · obtain rfl : k = n := by omega
      go_wp2_with fail
      go_end0
      exact ⟨rfl, l, nn, HP.out⟩
end Go.Proofs.YtdhbphdgdkfhfaaGreatDoor

/- dist.Divergence at right pairs. -/
namespace Go.Proofs.YtdhbphdgdkfhfaaGreatDoor
open Go.RowKit Go.Maps

/-- Is a chance of q 0 where p's is not? -/
def zeroB (p q : Nat → Int) : Nat → Bool
  | 0 => false
  | k + 1 => zeroB p q k || (decide (0 < p k) && decide (q k = 0))
theorem zeroB_iff (p q : Nat → Int) : ∀ n, zeroB p q n = true ↔ ∃ i, i < n ∧ 0 < p i ∧ q i = 0
  | 0 => by simp [zeroB]
  | n + 1 => by
    have ih := zeroB_iff p q n
    simp only [zeroB, Bool.or_eq_true, Bool.and_eq_true, decide_eq_true_eq, ih]
    constructor
    · rintro (⟨i, h1, h2⟩ | h)
      · exact ⟨i, by omega, h2⟩
      · exact ⟨n, by omega, h⟩
    · rintro ⟨i, h1, h2⟩
      rcases Nat.lt_or_ge i n with h | h
      · exact Or.inl ⟨i, h, h2⟩
      · obtain rfl : i = n := by omega
        exact Or.inr h2
/-- Two numbers in boxes. -/
structure TwoNums (W0 W : World) (B1 B2 : Nat) (x y : Int) : Prop where
  below : Below W0.heap.size W0 W
  c1 : W.cell? ⟨B1, 0, none⟩ = some (.int .i64 x)
  c2 : W.cell? ⟨B2, 0, none⟩ = some (.int .i64 y)

theorem twoNums_a (W0 : World) (x y : Int) (t : TypeId) : TwoNums W0 ((W0.alloc (.cells #[.int .i64 x] t)).alloc (.cells #[.int .i64 y] t)).drew W0.heap.size (W0.heap.size + 1) x y :=
  ⟨(below_chain (new_below _ _) (new_below _ _)).drew, new_one (new_below _ _).drew, by
    show ((W0.alloc (.cells #[.int .i64 x] t)).alloc (.cells #[.int .i64 y] t)).cell? _ = _
    rw [World.cell?_alloc_at _ _ _ _ (by simp)]; rfl⟩
theorem twoNums_b (W0 : World) (x y : Int) (t : TypeId) : TwoNums W0 ((W0.alloc (.cells #[.int .i64 y] t)).alloc (.cells #[.int .i64 x] t)).drew (W0.heap.size + 1) W0.heap.size x y :=
  ⟨(below_chain (new_below _ _) (new_below _ _)).drew, by
    show ((W0.alloc (.cells #[.int .i64 y] t)).alloc (.cells #[.int .i64 x] t)).cell? _ = _
    rw [World.cell?_alloc_at _ _ _ _ (by simp)]; rfl, new_one (new_below _ _).drew⟩

set_option maxRecDepth 100000 in
set_option maxHeartbeats 4000000 in
theorem Divergence_right (a : Nat → Addr) (b o cap b' o' cap' n P Q : Nat) (p q : Nat → Int) (w : World) (hE : Errs w a) (h : RowAt w b o n p) (k : RowAt w b' o' n q) (h0 : twoErr p n q n = 0) (hP : sumN p n = P) (hQ : sumN q n = Q) :
    Calls Tryz.prog 13 #[.slice (some ⟨b, o, none⟩) n cap, .slice (some ⟨b', o', none⟩) n cap'] w fun e w' => ((zeroB p q n = true ∧ e = .returned (.tuple #[.agg #[.int .i64 0, .slice none 0 0], errV a 4])) ∨ (zeroB p q n = false ∧ ∃ dn v, e = .returned (.tuple #[.agg #[.int .i64 dn, v], .nilIface]) ∧ LogBy w.heap.size P (fun x => sumN (divV p q P Q x) n) w' dn v)) ∧ Below w.heap.size w w' := by
  obtain ⟨_, hn, hok1, hok2⟩ := twoErr_ok h0
  have h0n := hok1.posN
  have hP1 : 1 ≤ P ∧ P ≤ 4096 := by have := hok1.pos; have := hok1.le; omega
  have hQ1 : 1 ≤ Q ∧ Q ≤ 4096 := by have := hok2.pos; have := hok2.le; omega
  obtain ⟨W0, hW0⟩ : ∃ W0, W0 = ((w.alloc (.cells #[.slice (some ⟨b, o, none⟩) n cap] 22)).alloc (.cells #[.slice (some ⟨b', o', none⟩) n cap'] 22)).alloc (.cells #[.int .i64 0, .slice none 0 0] 27) := ⟨_, rfl⟩
  have hb0 : Below w.heap.size w W0 := by rw [hW0]; exact below_chain (below_chain (new_below _ _) (new_below _ _)) (new_below _ _)
  have hz0 : W0.heap.size = w.heap.size + 1 + 1 + 1 := by rw [hW0]; simp
  have hbox : ∀ W, Below W0.heap.size W0 W → W.cell? ⟨w.heap.size, 0, none⟩ = some (.slice (some ⟨b, o, none⟩) n cap) ∧ W.cell? ⟨w.heap.size + 1, 0, none⟩ = some (.slice (some ⟨b', o', none⟩) n cap') := fun W hb => by
    refine ⟨(cell_past ?_ hb).2, (cell_past ?_ hb).2⟩
    · rw [hW0]; exact new_one (below_chain (new_below _ _) (new_below _ _))
    · rw [hW0]
      have := new_one (w := w.alloc (.cells #[.slice (some ⟨b, o, none⟩) n cap] 22)) (x := .slice (some ⟨b', o', none⟩) n cap') (t := 22) (new_below _ (.cells #[.int .i64 0, .slice none 0 0] 27))
      rw [World.size_alloc] at this
      exact this
  have hres : ∀ W, Below W0.heap.size W0 W → W.cell? ⟨w.heap.size + 1 + 1, 0, none⟩ = some (.int .i64 0) ∧ W.cell? ⟨w.heap.size + 1 + 1, 1, none⟩ = some (.slice none 0 0) ∧ W.frozen? ⟨w.heap.size + 1 + 1, 0, none⟩ = false ∧ W.frozen? ⟨w.heap.size + 1 + 1, 1, none⟩ = false := fun W hb => by
    rw [hW0] at hb
    have := res_past hb
    simpa using this
  have hcp := checkPair_any a (.slice (some ⟨b, o, none⟩) n cap) (.slice (some ⟨b', o', none⟩) n cap') n n p q W0 (hE.below hb0) (Or.inr ⟨b, o, cap, rfl, h0n, h.later hb0⟩) (Or.inr ⟨b', o', cap', rfl, h0n, k.later hb0⟩) (by omega) (by omega)
  rw [h0, errV_zero] at hcp
  have HR : Hid (∀ W, Below W0.heap.size W0 W → RowAt W b o n p ∧ RowAt W b' o' n q) := fun W hb => ⟨(h.later hb0).later hb, (k.later hb0).later hb⟩
  have HTP : Hid (∀ W, Below W0.heap.size W0 W → Calls Tryz.prog 21 #[.slice (some ⟨b, o, none⟩) n cap] W fun e w' => e = .returned (.int .i64 P) ∧ w' = W) := fun W hb => by
    have := total_some b o cap n p W (HR.out W hb).1 (fun k hk => by have := hok1.part hk; omega) (fun i hi => by have := hok1.lt hi; omega) (by omega)
    rw [hP] at this
    exact this
  have HTQ : Hid (∀ W, Below W0.heap.size W0 W → Calls Tryz.prog 21 #[.slice (some ⟨b', o', none⟩) n cap'] W fun e w' => e = .returned (.int .i64 Q) ∧ w' = W) := fun W hb => by
    have := total_some b' o' cap' n q W (HR.out W hb).2 (fun k hk => by have := hok2.part hk; omega) (fun i hi => by have := hok2.lt hi; omega) (by omega)
    rw [hQ] at this
    exact this
  have HSO : Hid (∀ (W : World) (B1 B2 : Nat), TwoNums W0 W B1 B2 P Q → zeroB p q n = false → Calls Tryz.prog 20 #[.int .i64 P, .func (.func 29) #[] #[.pointer (some ⟨w.heap.size, 0, none⟩), .pointer (some ⟨B1, 0, none⟩), .pointer (some ⟨w.heap.size + 1, 0, none⟩), .pointer (some ⟨B2, 0, none⟩)]] W fun e w' => ∃ dn v, e = .returned (.tuple #[.agg #[.int .i64 dn, v], .nilIface]) ∧ LogBy W.heap.size P (fun x => sumN (divV p q P Q x) n) w' dn v ∧ Below W.heap.size W w') := fun W B1 B2 ht hzb =>
    sumOver_any 29 _ P (4 * n) (fun x => sumN (divV p q P Q x) n) W (enters_of Tryz.func29 (by kernel_rfl) rfl) hP1.1 hP1.2 (by omega) (fun x => by
      have h3 := sumN_bound (f := divV p q P Q x) (B := 400000) (n := n) (fun i hi => divV_le x (hok1.lt hi) (hok2.lt hi) hP1.2 hQ1.2)
      have : (n : Int) * 400000 ≤ 6400000 := by omega
      omega)
      (fun W' mb hb ho => Divergence_parts P mb w.heap.size B1 (w.heap.size + 1) B2 b o cap b' o' cap' n P Q p q W' ho (hbox W' (below_chain ht.below hb)).1 (cell_past ht.c1 hb).2 (hbox W' (below_chain ht.below hb)).2 (cell_past ht.c2 hb).2 (HR.out W' (below_chain ht.below hb)).1 (HR.out W' (below_chain ht.below hb)).2 (fun i hi => hok1.lt hi) (fun i hi => hok2.lt hi)
        (fun i hi h1 => by
          have h2 := (hok2.lt hi).1
          rcases Int.lt_or_le 0 (q i) with h3 | h3
          · exact h3
          · have : zeroB p q n = true := (zeroB_iff p q n).2 ⟨i, hi, h1, by omega⟩
            rw [hzb] at this; cases this) hP1 hQ1 hn)
  have HQN : Hid (∀ i, i < n → 0 ≤ q i) := hok2.nn
  have HE3 : Hid (∀ W, Below W0.heap.size W0 W → Errs W a) := fun W hb => (hE.below hb0).below hb
  have HLG : Hid (0 < w.heap.size) := cell_lt hE.c3
  have HB0 := Hid.mk' hb0
  have HBOX := Hid.mk' hbox
  have HRES := Hid.mk' hres
  have HW0 := Hid.mk' hW0
  have HZ0 := Hid.mk' hz0
  clear hE h k hb0 hbox hres hW0 hz0 hok1 hok2 h0 hP hQ
  obtain ⟨cp0, cq0⟩ := HBOX.out W0 (Below.refl _ _)
  go_enter Tryz.func13, Tryz.ntmps13
  go_upto_region 1 with fail
  rw [← HW0.out]
  go_wp2_with (go_at_call 28; refine hcp.mono ?_; rintro e w1 ⟨rfl, hw1⟩; rw [hw1]; clear hw1)
  clear hcp
  go_loopw [7, 8, 20] (fun _ _ i wr => ∃ k : Nat, k ≤ n ∧ i = .int .i64 k ∧ wr = W0 ∧ Hid (zeroB p q k = false)) (fun _ _ i _ => n - (intOf i).toNat)
  case atStart => exact ⟨0, Nat.zero_le _, rfl, rfl, rfl⟩
  case round =>
    obtain ⟨k, hk, rfl, hwr, HZB⟩ := hrel
    rw [hwr]
    clear hwr
    rcases Nat.lt_or_ge k n with h1 | h1
    · have hcP := (HR.out W0 (Below.refl _ _)).1 k h1
      have hcQ := (HR.out W0 (Below.refl _ _)).2 k h1
      have hkn : (k : Int) < (n : Int) := by omega
      have HZ1 : Hid (zeroB p q (k + 1) = (decide (0 < p k) && decide (q k = 0))) := by show (zeroB p q k || _) = _; rw [HZB.out, Bool.false_or]
      have HZT : Hid (0 < p k → q k = 0 → zeroB p q n = true) := fun h2 h3 => (zeroB_iff p q n).2 ⟨k, h1, h2, h3⟩
      obtain ⟨x, hx⟩ : ∃ x, x = p k := ⟨_, rfl⟩
      obtain ⟨y, hy⟩ : ∃ y, y = q k := ⟨_, rfl⟩
      rw [← hx] at hcP HZ1 HZT
      rw [← hy] at hcQ HZ1 HZT
      clear hx hy
      rcases Int.lt_or_le 0 x with hx | hx
      · have hxd : decide (0 < x) = true := decide_eq_true hx
        by_cases hy : y = 0
        · subst hy
          have HZF : Hid (zeroB p q n = true) := HZT.out hx rfl
          clear HZT HZ1
          have e3 := (HE3.out W0 (Below.refl _ _)).c3
          have e3s : (W0.setCell ⟨w.heap.size + 1 + 1, 0, none⟩ (.int .i64 0)).cell? ⟨0, 0, none⟩ = some (.iface 155 (.pointer (some (a 3)))) := by
            rw [World.cell?_setCell_far _ _ _ _ (by show w.heap.size + 1 + 1 ≠ 0; have := HLG.out; omega)]
            exact e3
          obtain ⟨c0, c1, q0, q1⟩ := HRES.out W0 (Below.refl _ _)
          go_wp2_with fail
          go_region
          all_goals
            go_wp2_with fail
            refine bodyPost_ret (v := .tuple #[.agg #[.int .i64 0, .slice none 0 0], .iface 155 (.pointer (some (a 3)))]) (by simp [results, Tryz.results13, go_sem, c0, c1]) rfl ⟨Or.inl ⟨HZF.out, rfl⟩, ?_⟩
            first
              | exact ((HB0.out.setCell (by show w.heap.size ≤ w.heap.size + 1 + 1; omega) _).setCell (by show w.heap.size ≤ w.heap.size + 1 + 1; omega) _).drew
              | exact HB0.out.drew
        · have hyb : (y == 0) = false := by simpa using hy
          have HZ2 : Hid (zeroB p q (k + 1) = false) := by show _ = _; rw [HZ1.out, hxd]; simpa using hy
          go_wp2_with fail
          exact ⟨⟨k + 1, h1, by go_num, trivial, HZ2⟩, by simp [intOf]; omega⟩
      · have hxd : decide (0 < x) = false := decide_eq_false (by omega)
        have HZ2 : Hid (zeroB p q (k + 1) = false) := by show _ = _; rw [HZ1.out, hxd]; rfl
        go_wp2_with fail
        exact ⟨⟨k + 1, h1, by go_num, trivial, HZ2⟩, by simp [intOf]; omega⟩
    · obtain rfl : k = n := by omega
      have hcur0 : Below W0.heap.size W0 W0 := Below.refl _ _
      go_wp2_with fail
      go_cut [9, 10] from 37 (fun s t wx => ∃ B1 B2 : Nat, s = .pointer (some ⟨B1, 0, none⟩) ∧ t = .pointer (some ⟨B2, 0, none⟩) ∧ Hid (TwoNums W0 wx B1 B2 P Q))
      case first =>
        clear cp0 cq0
        go_region_held3 (fun W => W.cell? ⟨w.heap.size, 0, none⟩ = some (.slice (some ⟨b, o, none⟩) k cap) ∧ W.cell? ⟨w.heap.size + 1, 0, none⟩ = some (.slice (some ⟨b', o', none⟩) k cap'))
          ((refine HBOX.out _ ?_; (first | exact hcur0 | exact hcur0.drew | exact (more_below hcur0 _).drew | exact (more_below (more_below hcur0 _) _).drew | exact more_below hcur0.drew _ | exact more_below (more_below hcur0.drew _) _ | exact more_below (more_below hcur0 _).drew _ | exact more_below hcur0 _ | exact more_below (more_below hcur0 _) _)))
          (first
            | (go_at_call_of 21 b; refine (HTP.out _ ?_).mono ?_; (first | exact hcur0 | exact hcur0.drew | exact (more_below hcur0 _).drew | exact (more_below (more_below hcur0 _) _).drew | exact more_below hcur0.drew _ | exact more_below (more_below hcur0.drew _) _ | exact more_below (more_below hcur0 _).drew _ | exact more_below hcur0 _ | exact more_below (more_below hcur0 _) _); rintro e w5 ⟨rfl, hw5⟩; rw [hw5]; clear hw5)
            | (go_at_call_of 21 b'; refine (HTQ.out _ ?_).mono ?_; (first | exact hcur0 | exact hcur0.drew | exact (more_below hcur0 _).drew | exact (more_below (more_below hcur0 _) _).drew | exact more_below hcur0.drew _ | exact more_below (more_below hcur0.drew _) _ | exact more_below (more_below hcur0 _).drew _ | exact more_below hcur0 _ | exact more_below (more_below hcur0 _) _); rintro e w5 ⟨rfl, hw5⟩; rw [hw5]; clear hw5))
        all_goals
          go_wp2_with fail
          go_meet
          first | exact ⟨_, _, rfl, rfl, twoNums_a _ _ _ _⟩ | exact ⟨_, _, rfl, rfl, twoNums_b _ _ _ _⟩
      case rest =>
      obtain ⟨B1, B2, rfl, rfl, HTN⟩ := hcut
      have hso := HSO.out wc B1 B2 HTN.out HZB.out
      have cB := HTN.out.c1
      go_wp2_with fail
      refine hso.mono ?_
      clear hso cB
      rintro e w6 ⟨dn, v, rfl, hlb, hb6⟩
      have hbw := below_chain HTN.out.below hb6
      obtain ⟨c0, c1, q0, q1⟩ := HRES.out w6 hbw
      have HBW := Hid.mk' (below_chain HB0.out hbw)
      have HLT : Hid (w.heap.size + 1 + 1 < wc.heap.size) := by have h2 := HZ0.out; have h3 := HTN.out.below.size; show _ < _; omega
      have HLB := Hid.mk' hlb
      obtain ⟨ad, n', c', rfl⟩ := hlb.form
      clear hlb hb6 hbw
      go_wp2_with fail
      refine bodyPost_ret (v := .tuple #[.agg #[.int .i64 dn, .slice ad n' c'], .nilIface]) (by simp [results, Tryz.results13, go_sem, c0, c1]) rfl ⟨Or.inr ⟨HZB.out, _, .slice ad n' c', rfl, (HLB.out.set HLT.out _ _).lower (by have := HLT.out; omega)⟩, ?_⟩
      exact (HBW.out.setCell (by show w.heap.size ≤ w.heap.size + 1 + 1; omega) _).setCell (by show w.heap.size ≤ w.heap.size + 1 + 1; omega) _

set_option maxRecDepth 100000 in
set_option maxHeartbeats 1000000 in
theorem Divergence_bad (a : Nat → Addr) (v u : Value) (n m : Nat) (p q : Nat → Int) (w : World) (hE : Errs w a) (h : NumsAt w v n p) (k : NumsAt w u m q) (hn : n ≤ 400) (hm : m ≤ 400) (h0 : twoErr p n q m ≠ 0) :
    Calls Tryz.prog 13 #[v, u] w fun e w' => e = .returned (.tuple #[.agg #[.int .i64 0, .slice none 0 0], errV a (twoErr p n q m)]) ∧ Below w.heap.size w w' := by
  obtain ⟨ad, cap, rfl⟩ := h.form
  obtain ⟨ad', cap', rfl⟩ := k.form
  obtain ⟨W0, hW0⟩ : ∃ W0, W0 = ((w.alloc (.cells #[.slice ad n cap] 22)).alloc (.cells #[.slice ad' m cap'] 22)).alloc (.cells #[.int .i64 0, .slice none 0 0] 27) := ⟨_, rfl⟩
  have hb0 : Below w.heap.size w W0 := by rw [hW0]; exact below_chain (below_chain (new_below _ _) (new_below _ _)) (new_below _ _)
  have hbox : W0.cell? ⟨w.heap.size, 0, none⟩ = some (.slice ad n cap) := by rw [hW0]; exact new_one (below_chain (new_below _ _) (new_below _ _))
  have hbox2 : W0.cell? ⟨w.heap.size + 1, 0, none⟩ = some (.slice ad' m cap') := by
    rw [hW0]
    have := new_one (w := w.alloc (.cells #[.slice ad n cap] 22)) (x := .slice ad' m cap') (t := 22) (new_below _ (.cells #[.int .i64 0, .slice none 0 0] 27))
    rw [World.size_alloc] at this
    exact this
  have hres : W0.cell? ⟨w.heap.size + 1 + 1, 0, none⟩ = some (.int .i64 0) ∧ W0.cell? ⟨w.heap.size + 1 + 1, 1, none⟩ = some (.slice none 0 0) ∧ W0.frozen? ⟨w.heap.size + 1 + 1, 0, none⟩ = false ∧ W0.frozen? ⟨w.heap.size + 1 + 1, 1, none⟩ = false := by
    rw [hW0]
    have := res_past (w := (w.alloc (.cells #[.slice ad n cap] 22)).alloc (.cells #[.slice ad' m cap'] 22)) (x := .int .i64 0) (y := .slice none 0 0) (t := 27) (Below.refl _ _)
    simpa using this
  have hcp := checkPair_any a (.slice ad n cap) (.slice ad' m cap') n m p q W0 (hE.below hb0) (h.later hb0) (k.later hb0) (by omega) (by omega)
  rw [errV_pos a h0] at hcp ⊢
  generalize a (twoErr p n q m - 1) = ea at hcp ⊢
  obtain ⟨c0, c1, q0, q1⟩ := hres
  have HB0 := Hid.mk' hb0
  have HW0 := Hid.mk' hW0
  clear hE h k hb0 hW0 h0
  go_enter Tryz.func13, Tryz.ntmps13
  go_upto_region 1 with fail
  rw [← HW0.out]
  go_wp2_with (go_at_call 28; refine hcp.mono ?_; rintro e w1 ⟨rfl, hw1⟩; rw [hw1]; clear hw1)
  refine bodyPost_ret (v := .tuple #[.agg #[.int .i64 0, .slice none 0 0], .iface 155 (.pointer (some ea))]) (by simp [results, Tryz.results13, go_sem, c0, c1]) rfl ⟨rfl, ?_⟩
  exact (HB0.out.setCell (by show w.heap.size ≤ w.heap.size + 1 + 1; omega) _).setCell (by show w.heap.size ≤ w.heap.size + 1 + 1; omega) _
end Go.Proofs.YtdhbphdgdkfhfaaGreatDoor

/- The document's differences. -/
namespace Go.Proofs.YtdhbphdgdkfhfaaGreatDoor
open Go.RowKit

set_option maxRecDepth 10000 in
set_option maxHeartbeats 4000000 in
/-- Minus: the difference, in its lowest terms. -/
theorem Minus_ratio (v1 v2 : Value) (n1 n2 : Int) (d1 d2 k : Nat) (w : World) (h1 : RatioAt w v1 n1 d1) (h2 : RatioAt w v2 n2 d2) (hd1 : 0 < d1) (hd2 : 0 < d2) (hn1 : n1.natAbs < 1000000 ^ k) (hn2 : n2.natAbs < 1000000 ^ k) (hk1 : d1 < 1000000 ^ k) (hk2 : d2 < 1000000 ^ k) (hk : k + k + 1 + 1 ≤ 1000000) :
    Calls Tryz.prog 26 #[v1, v2] w fun e w' => ∃ r, e = .returned r ∧ RatioAt w' r ((n1 * d2 + -n2 * d1).tdiv ((Nat.gcd (n1 * d2 + -n2 * d1).natAbs (d1 * d2) : Nat) : Int)) (d1 * d2 / Nat.gcd (n1 * d2 + -n2 * d1).natAbs (d1 * d2)) ∧ Below w.heap.size w w' := by
  obtain ⟨u1, q1, rfl, hu1, hq1⟩ := h1
  obtain ⟨u2, q2, rfl, hu2, hq2⟩ := h2
  obtain ⟨ad1, l1, cap1, rfl, _⟩ := hu1.len
  obtain ⟨bd1, m1, bap1, rfl, _⟩ := hq1.len
  obtain ⟨ad2, l2, cap2, rfl, _⟩ := hu2.len
  obtain ⟨bd2, m2, bap2, rfl, _⟩ := hq2.len
  obtain ⟨s1, hs1⟩ : ∃ s, decide (n1 < 0) = s := ⟨_, rfl⟩
  obtain ⟨s2, hs2⟩ : ∃ s, decide (n2 < 0) = s := ⟨_, rfl⟩
  rw [hs1, hs2]
  have hB0 : Below w.heap.size w (((w.alloc (.cells #[.bool s1, .slice ad1 l1 cap1, .slice bd1 m1 bap1] 54)).alloc (.cells #[.bool s2, .slice ad2 l2 cap2, .slice bd2 m2 bap2] 54)).alloc (.cells #[.bool false, .slice none 0 0, .slice none 0 0] 54)) := (((Below.refl _ _).alloc (Nat.le_refl _) _).alloc (by simp) _).alloc (by simp; omega) _
  have hN := noInts_third3 w (.cells #[.bool s1, .slice ad1 l1 cap1, .slice bd1 m1 bap1] 54) (.cells #[.bool s2, .slice ad2 l2 cap2, .slice bd2 m2 bap2] 54) 54
  have hNP := fun (w1 : World) => nine_past (w := w) (w1 := w1) (x0 := .bool s1) (x1 := .slice ad1 l1 cap1) (x2 := .slice bd1 m1 bap1) (y0 := .bool s2) (y1 := .slice ad2 l2 cap2) (y2 := .slice bd2 m2 bap2) (r0 := .bool false) (r1 := .slice none 0 0) (r2 := .slice none 0 0) (t := 54)
  have hz0 : w.heap.size + 1 + 1 + 1 = (((w.alloc (.cells #[.bool s1, .slice ad1 l1 cap1, .slice bd1 m1 bap1] 54)).alloc (.cells #[.bool s2, .slice ad2 l2 cap2, .slice bd2 m2 bap2] 54)).alloc (.cells #[.bool false, .slice none 0 0, .slice none 0 0] 54)).heap.size := by simp
  generalize hW : (((w.alloc (.cells #[.bool s1, .slice ad1 l1 cap1, .slice bd1 m1 bap1] 54)).alloc (.cells #[.bool s2, .slice ad2 l2 cap2, .slice bd2 m2 bap2] 54)).alloc (.cells #[.bool false, .slice none 0 0, .slice none 0 0] 54)) = W0 at hB0 hN hNP hz0
  have hKS : ∀ W, Below (w.heap.size + 1 + 1) W0 W → (W.cell? ⟨w.heap.size, 0, none⟩ = some (.bool s1) ∧ W.cell? ⟨w.heap.size, 1, none⟩ = some (.slice ad1 l1 cap1) ∧ W.cell? ⟨w.heap.size, 2, none⟩ = some (.slice bd1 m1 bap1)) ∧ (W.cell? ⟨w.heap.size + 1, 0, none⟩ = some (.bool s2) ∧ W.cell? ⟨w.heap.size + 1, 1, none⟩ = some (.slice ad2 l2 cap2) ∧ W.cell? ⟨w.heap.size + 1, 2, none⟩ = some (.slice bd2 m2 bap2)) := fun W hb => by
    obtain ⟨⟨a0, a1, a2⟩, ⟨b0, b1, b2⟩, _⟩ := hNP W0 (Below.refl _ _)
    have ha : ∀ j v, W0.cell? ⟨w.heap.size, j, none⟩ = some v → W.cell? ⟨w.heap.size, j, none⟩ = some v := fun j v h => by rw [hb.cell (p := ⟨w.heap.size, j, none⟩) (by show w.heap.size < _; omega)]; exact h
    have hb' : ∀ j v, W0.cell? ⟨w.heap.size + 1, j, none⟩ = some v → W.cell? ⟨w.heap.size + 1, j, none⟩ = some v := fun j v h => by rw [hb.cell (p := ⟨w.heap.size + 1, j, none⟩) (by show w.heap.size + 1 < _; omega)]; exact h
    exact ⟨⟨ha 0 _ a0, ha 1 _ a1, ha 2 _ a2⟩, ⟨hb' 0 _ b0, hb' 1 _ b1, hb' 2 _ b2⟩⟩
  have HS2 := Hid.mk' (show SignedAt W0.drew (.agg #[.bool s2, .slice ad2 l2 cap2]) n2 from ⟨_, by rw [hs2], (hu2.later hB0).later ((Below.refl _ _).drew)⟩)
  have HD2 := Hid.mk' ((hq2.later hB0).later ((Below.refl _ _).drew))
  have HR1 := Hid.mk' (show RatioAt W0.drew (.agg #[.bool s1, .slice ad1 l1 cap1, .slice bd1 m1 bap1]) n1 d1 from ⟨_, _, by rw [hs1], (hu1.later hB0).later ((Below.refl _ _).drew), (hq1.later hB0).later ((Below.refl _ _).drew)⟩)
  have hback := SignedBack_any _ n2 W0.drew HS2.out
  have HBACK := Hid.mk' hback
  have HKS := Hid.mk' hKS
  have HW := Hid.mk' hW
  have HNP := Hid.mk' hNP
  have HN := Hid.mk' hN
  have HB := Hid.mk' hB0
  have HBD : Hid (n1.natAbs < 1000000 ^ k ∧ (-n2).natAbs < 1000000 ^ k ∧ d1 < 1000000 ^ k ∧ d2 < 1000000 ^ k) := ⟨hn1, by rw [Int.natAbs_neg]; exact hn2, hk1, hk2⟩
  have hcur0 : Below (w.heap.size + 1 + 1) W0 W0 := Below.refl _ _
  have hcur : Below (w.heap.size + 1 + 1) W0 W0.drew := (Below.refl _ _).drew
  obtain ⟨zz, hzz⟩ : ∃ zz, zz = n1 * (d2 : Int) + -n2 * (d1 : Int) := ⟨_, rfl⟩
  rw [← hzz]
  have HZZ := Hid.mk' hzz
  clear hs1 hs2 hu1 hu2 hq1 hq2 hB0 hN hNP hW hKS hback hn1 hn2 hk1 hk2 hzz
  go_enter Tryz.func26, Tryz.ntmps26
  go_wp2_with fail
  rw [HW.out]
  go_region_held3 (fun W => (W.cell? ⟨w.heap.size, 0, none⟩ = some (.bool s1) ∧ W.cell? ⟨w.heap.size, 1, none⟩ = some (.slice ad1 l1 cap1) ∧ W.cell? ⟨w.heap.size, 2, none⟩ = some (.slice bd1 m1 bap1)) ∧ (W.cell? ⟨w.heap.size + 1, 0, none⟩ = some (.bool s2) ∧ W.cell? ⟨w.heap.size + 1, 1, none⟩ = some (.slice ad2 l2 cap2) ∧ W.cell? ⟨w.heap.size + 1, 2, none⟩ = some (.slice bd2 m2 bap2)))
    (first | exact HKS.out _ hcur0 | exact HKS.out _ hcur | exact HKS.out _ hc1 | exact HKS.out _ hc3 | exact HKS.out _ (below_set3 hc3 (Nat.le_refl _) _ _ _))
    (first
      | (go_at_call 32; refine HBACK.out.mono ?_; rintro e w1 ⟨sv, rfl, ⟨us, rfl, hus⟩, hb1⟩; obtain ⟨sg, hsg⟩ : ∃ sg, decide (-n2 < 0) = sg := ⟨_, rfl⟩; rw [hsg]; obtain ⟨ad3, l3, cap3, rfl, _⟩ := hus.len; have hbw1 := below_chain ((Below.refl _ _).drew) hb1; have hc1 : Below (w.heap.size + 1 + 1) W0 w1 := hbw1.mono (by omega); have HRA : Hid (RatioAt w1 (.agg #[.bool sg, .slice ad3 l3 cap3, .slice bd2 m2 bap2]) (-n2) d2) := ⟨_, _, by rw [hsg], hus, HD2.out.later hb1⟩; have HRB := Hid.mk' (HR1.out.later hb1); have HBW1 := Hid.mk' hbw1; clear hus hb1 hbw1 hsg)
      | (go_at_call 46; refine (Plus_ratio _ _ n1 (-n2) d1 d2 k w1 HRB.out HRA.out hd1 hd2 HBD.out.1 HBD.out.2.1 HBD.out.2.2.1 HBD.out.2.2.2 hk).mono ?_; rintro e w3 ⟨rv, rfl, hrv, hb3⟩; rw [← HZZ.out] at hrv; obtain ⟨ur, qr, rfl, hur, hqr⟩ := hrv; obtain ⟨ad5, l5, cap5, rfl, _⟩ := hur.len; obtain ⟨ad6, l6, cap6, rfl, _⟩ := hqr.len; have hbw3 := below_chain HBW1.out hb3; have hc3 : Below (w.heap.size + 1 + 1) W0 w3 := hbw3.mono (by omega); obtain ⟨_, _, ⟨c0, c1, c2⟩, f0, f1, f2⟩ := HNP.out w3 hbw3; have HUR := Hid.mk' hur; have HQR := Hid.mk' hqr; have HBW3 := Hid.mk' hbw3; clear hur hqr hb3 hbw3))
  go_wp2_with fail
  refine bodyPost_ret (v := .agg #[.bool (decide (zz.tdiv ((Nat.gcd zz.natAbs (d1 * d2) : Nat) : Int) < 0)), .slice ad5 l5 cap5, .slice ad6 l6 cap6]) (by simp [results, Tryz.results26, go_sem, c0, c1, c2]) rfl ⟨_, rfl, ⟨_, _, rfl, HUR.out.set3 (HN.out.later (by omega) HBW3.out) c0 c1, HQR.out.set3 (HN.out.later (by omega) HBW3.out) c0 c1⟩, below_set3 (below_chain HB.out HBW3.out) (by omega) _ _ _⟩

/-- What is less than nothing by a part of M. -/
theorem low_minus {M : Nat} (hM : 0 < M) (z : Int) : (0 * (lowD M z : Int) + -lowN M z * (1 : Nat)).tdiv ((Nat.gcd (0 * (lowD M z : Int) + -lowN M z * (1 : Nat)).natAbs (1 * lowD M z) : Nat) : Int) = lowN M (-z) ∧ 1 * lowD M z / Nat.gcd (0 * (lowD M z : Int) + -lowN M z * (1 : Nat)).natAbs (1 * lowD M z) = lowD M (-z) := by
  refine low_same hM (by have := lowD_pos hM z; omega) ?_
  have h1 := low_cross hM z
  rw [Nat.one_mul]
  generalize lowN M z = a at *
  generalize (lowD M z : Int) = c at *
  simp only [Int.zero_mul, Int.zero_add, Int.natCast_one, Int.mul_one]
  rw [Int.neg_mul, h1, Int.neg_mul]
/-- A part of a part: n of M times x of n is x of M. -/
theorem low_times {M n : Nat} (hM : 0 < M) (hn : 0 < n) (x : Int) : (lowN M n * lowN n x).tdiv ((Nat.gcd (lowN M n * lowN n x).natAbs (lowD M n * lowD n x) : Nat) : Int) = lowN M x ∧ lowD M n * lowD n x / Nat.gcd (lowN M n * lowN n x).natAbs (lowD M n * lowD n x) = lowD M x := by
  refine low_same hM (Nat.mul_pos (lowD_pos hM n) (lowD_pos hn x)) ?_
  have h1 := low_cross hM (n : Int)
  have h2 := low_cross hn x
  rw [Int.natCast_mul]
  generalize lowN M n = a at *
  generalize lowN n x = b at *
  generalize (lowD M n : Int) = c at *
  generalize (lowD n x : Int) = e at *
  calc a * b * (M : Int) = (a * (M : Int)) * b := by rw [Int.mul_assoc, Int.mul_comm b, ← Int.mul_assoc]
    _ = (b * (n : Int)) * c := by rw [h1, Int.mul_comm (n : Int) c, Int.mul_assoc, Int.mul_comm c, Int.mul_comm (n : Int) b]
    _ = x * (c * e) := by rw [h2, Int.mul_assoc, Int.mul_comm e c]
theorem low_self {M : Nat} (hM : 0 < M) : lowN M M = 1 ∧ lowD M M = 1 := by
  have h := low_same (M := M) (d := 1) (z := (M : Int)) (n := 1) hM (by decide) (by simp)
  simpa using And.intro h.1.symm h.2.symm
end Go.Proofs.YtdhbphdgdkfhfaaGreatDoor

/- The document's Entropy of a Wide, and EntropyOf. -/
namespace Go.Proofs.YtdhbphdgdkfhfaaGreatDoor
open Go.RowKit

/-- A Wide to which f came, in at most c calls. -/
structure WPuts (base M B : Nat) (W0 wr : World) (f : Int → Int) (c : Nat) (L0 : List Ent) (vp vc : Value) (L : List Ent) : Prop where
  wide : WideAt base M wr B vp vc L
  rise : Rising (absL L)
  val : ∀ x, atL (absL L) x = atL (absL L0) x + f x
  len : L.length ≤ L0.length + 20 * c
  kept : IntsKept W0 wr
  moved : Moved B W0 wr
  below : Below base W0 wr
theorem WPuts.trans {base M B : Nat} {W0 W1 W2 : World} {f g : Int → Int} {c d : Nat} {L0 L1 L2 : List Ent} {vp vc vp' vc' : Value} (h : WPuts base M B W0 W1 f c L0 vp vc L1) (k : WPuts base M B W1 W2 g d L1 vp' vc' L2) : WPuts base M B W0 W2 (fun x => f x + g x) (c + d) L0 vp' vc' L2 :=
  ⟨k.wide, k.rise, fun x => by rw [k.val, h.val]; omega, by have := h.len; have := k.len; omega, h.kept.trans k.kept, h.moved.trans k.moved, h.below.trans k.below⟩
theorem WPuts.congr {base M B : Nat} {W0 W1 : World} {f g : Int → Int} {c d : Nat} {L0 L1 : List Ent} {vp vc : Value} (h : WPuts base M B W0 W1 f c L0 vp vc L1) (hc : c ≤ d) (he : ∀ x, f x = g x) : WPuts base M B W0 W1 g d L0 vp vc L1 :=
  ⟨h.wide, h.rise, fun x => by rw [h.val, he], by have := h.len; omega, h.kept, h.moved, h.below⟩
theorem WPuts.later {base M B : Nat} {W0 W1 W2 : World} {f : Int → Int} {c : Nat} {L0 L1 : List Ent} {vp vc : Value} (h : WPuts base M B W0 W1 f c L0 vp vc L1) (hb : Below W1.heap.size W1 W2) : WPuts base M B W0 W2 f c L0 vp vc L1 :=
  ⟨h.wide.later hb, h.rise, h.val, h.len, h.kept.trans (IntsKept.of_below hb), h.moved.trans (Moved.of_below hb h.wide.lt), h.below.trans (hb.mono (by have := h.wide.hB; have := h.wide.lt; omega))⟩
theorem WPuts.start {base M B : Nat} {W0 : World} {L : List Ent} {vp vc : Value} (h : WideAt base M W0 B vp vc L) (hr : Rising (absL L)) {f : Int → Int} (hf : ∀ x, f x = 0) (c : Nat) : WPuts base M B W0 W0 f c L vp vc L :=
  ⟨h, hr, fun x => by rw [hf]; omega, by omega, IntsKept.refl _, Moved.refl _ _, Below.refl _ _⟩
/-- Number, in these words. -/
theorem Number_by (base M B n0 : Nat) (z : Int) (cv vp vc : Value) (L : List Ent) (w : World) (hW : WideAt base M w B vp vc L) (hc : RatioAt w cv (lowN M z) (lowD M z)) (hM : 0 < M) (hM6 : M ≤ 4096) (hr : Rising (absL L)) (hlen : L.length ≤ 90000) (hn1 : 1 ≤ n0) (hn6 : n0 ≤ 1000000) (hb : ∀ x, -1000000000000000 ≤ atL (absL L) x ∧ atL (absL L) x ≤ 1000000000000000) (hz : -1000000 ≤ z ∧ z ≤ 1000000) :
    Calls Tryz.prog 27 #[.pointer (some ⟨B, 0, none⟩), .int .i64 n0, cv] w fun e w' => e = .returned (.tuple #[]) ∧ ∃ vp' vc' L', WPuts base M B w w' (fun x => z * multI x n0) 1 L vp' vc' L' := by
  have p3 : (1000000 : Nat) ^ 3 = 1000000000000000000 := by decide
  refine (Number_any base M B n0 z cv vp vc L 3 w hW hc hM hr hlen hn1 hn6 (fun x => by rw [p3]; have := hb x; omega) (by rw [p3]; omega) (by decide)).mono ?_
  rintro e w' ⟨rfl, vp', vc', L', k, h⟩
  have hk := h.cnt_le (by decide) hn6
  refine ⟨rfl, vp', vc', L', h.wide, h.rise, fun x => ?_, by have := h.len; omega, h.kept, h.moved, h.below⟩
  have := h.val x
  rw [multI_one, Int.mul_zero, Int.add_zero] at this
  exact this

/-- A fraction in a box. -/
structure RBox (W0 W : World) (B : Nat) (n : Int) (d : Nat) : Prop where
  below : Below W0.heap.size W0 W
  hB : W0.heap.size ≤ B
  box : ∃ s ad l cap ad' l' cap', W.cell? ⟨B, 0, none⟩ = some (.bool s) ∧ W.cell? ⟨B, 1, none⟩ = some (.slice ad l cap) ∧ W.cell? ⟨B, 2, none⟩ = some (.slice ad' l' cap') ∧ RatioAt W (.agg #[.bool s, .slice ad l cap, .slice ad' l' cap']) n d
theorem rBox_late {W0 W : World} {n : Int} {d : Nat} {s : Bool} {ad ad' : Option Addr} {l cap l' cap' : Nat} (h : Below W0.heap.size W0 W) (hr : RatioAt W (.agg #[.bool s, .slice ad l cap, .slice ad' l' cap']) n d) : RBox W0 (W.alloc (.cells #[.bool s, .slice ad l cap, .slice ad' l' cap'] 54)) W.heap.size n d :=
  ⟨more_below h _, h.size, s, ad, l, cap, ad', l', cap', by simp, by simp, by simp, hr.later (new_below _ _)⟩
theorem rBox_soon {W0 W : World} {B : Nat} {n : Int} {d : Nat} {s : Bool} {ad ad' : Option Addr} {l cap l' cap' : Nat} (h : Below W0.heap.size W0 W) (hr : RatioAt W (.agg #[.bool s, .slice ad l cap, .slice ad' l' cap']) n d) (hn : NewBox3 W0 W B) : RBox W0 (((W.setCell ⟨B, 0, none⟩ (.bool s)).setCell ⟨B, 1, none⟩ (.slice ad l cap)).setCell ⟨B, 2, none⟩ (.slice ad' l' cap')) B n d := by
  refine ⟨below_set3 h hn.hB _ _ _, hn.hB, s, ad, l, cap, ad', l', cap', ?_, ?_, ?_, ?_⟩
  · rw [World.cell?_setCell_other _ _ _ _ (by simp), World.cell?_setCell_other _ _ _ _ (by simp)]; exact World.cell?_setCell_same _ _ _ hn.c0
  · rw [World.cell?_setCell_other _ _ _ _ (by simp)]; exact World.cell?_setCell_same _ _ _ (by rw [World.cell?_setCell_other _ _ _ _ (by simp)]; exact hn.c1)
  · exact World.cell?_setCell_same _ _ _ (by rw [World.cell?_setCell_other _ _ _ _ (by simp), World.cell?_setCell_other _ _ _ _ (by simp)]; exact hn.c2)
  · obtain ⟨u, q, hv, hu, hq⟩ := hr
    have hv' := hv
    simp only [Value.agg.injEq, Array.mk.injEq, List.cons.injEq, and_true] at hv'
    obtain ⟨_, rfl, rfl⟩ := hv'
    exact ⟨_, _, hv, hu.set3 hn.no hn.c0 hn.c1, hq.set3 hn.no hn.c0 hn.c1⟩
theorem RatioOf_low (x : Int) (n : Nat) (w : World) (h0 : -1000000 ≤ x ∧ x ≤ 1000000) (hd : 0 < n) (hd1 : n ≤ 1000000) :
    Calls Tryz.prog 17 #[.int .i64 x, .int .i64 n] w fun e w' => ∃ r, e = .returned r ∧ RatioAt w' r (lowN n x) (lowD n x) ∧ Below w.heap.size w w' := RatioOf_any x n w (by omega) (by omega) hd (by omega)
theorem low_lt {M : Nat} (hM : 0 < M) {z : Int} (hM6 : M ≤ 4096) (hz : -1000000 ≤ z ∧ z ≤ 1000000) : (lowN M z).natAbs < 1000000 ^ 3 ∧ lowD M z < 1000000 ^ 3 := by
  have p3 : (1000000 : Nat) ^ 3 = 1000000000000000000 := by decide
  have h1 := lowN_le hM z
  have h2 := lowD_le M z
  rw [p3]
  omega
/-- A chance of a chance. -/
theorem Times_low (M n : Nat) (x : Int) (c r : Value) (w : World) (hc : RatioAt w c (lowN M n) (lowD M n)) (hr : RatioAt w r (lowN n x) (lowD n x)) (hM : 0 < M) (hM6 : M ≤ 4096) (hn : 0 < n) (hn6 : n ≤ 4096) (hx : -1000000 ≤ x ∧ x ≤ 1000000) :
    Calls Tryz.prog 30 #[c, r] w fun e w' => ∃ r', e = .returned r' ∧ RatioAt w' r' (lowN M x) (lowD M x) ∧ Below w.heap.size w w' := by
  have l1 := low_lt hM (z := (n : Int)) hM6 (by omega)
  have l2 := low_lt hn (z := x) hn6 hx
  have h := Times_ratio c r _ _ _ _ 3 w hc hr (lowD_pos hM _) (lowD_pos hn _) l1.1 l2.1 l1.2 l2.2 (by decide)
  have e := low_times hM hn x
  rw [e.1, e.2] at h
  exact h
/-- What is less than nothing. -/
theorem Minus_low (M : Nat) (x : Int) (o r : Value) (w : World) (ho : RatioAt w o (lowN 1 0) (lowD 1 0)) (hr : RatioAt w r (lowN M x) (lowD M x)) (hM : 0 < M) (hM6 : M ≤ 4096) (hx : -1000000 ≤ x ∧ x ≤ 1000000) :
    Calls Tryz.prog 26 #[o, r] w fun e w' => ∃ r', e = .returned r' ∧ RatioAt w' r' (lowN M (-x)) (lowD M (-x)) ∧ Below w.heap.size w w' := by
  have l2 := low_lt hM (z := x) hM6 hx
  have l1 := low_lt (M := 1) (by decide) (z := 0) (by decide) (by omega)
  rw [(low_one 0).1, (low_one 0).2] at ho l1
  have h := Minus_ratio o r 0 _ 1 _ 3 w ho hr (by decide) (lowD_pos hM _) l1.1 l2.1 l1.2 l2.2 (by decide)
  have e := low_minus hM x
  rw [e.1, e.2] at h
  exact h
end Go.Proofs.YtdhbphdgdkfhfaaGreatDoor

/- The document's Entropy of a Wide. -/
namespace Go.Proofs.YtdhbphdgdkfhfaaGreatDoor
open Go.RowKit

theorem RowAt.kept {w w' : World} {b o n : Nat} {z : Nat → Int} (h : RowAt w b o n z) (hk : IntsKept w w') : RowAt w' b o n z := fun i hi => hk _ _ (h i hi)

set_option maxRecDepth 100000 in
set_option maxHeartbeats 4000000 in
theorem WEntropy_some (base M B b o cap n N : Nat) (z : Nat → Int) (cv vp vc : Value) (L : List Ent) (w : World) (hW : WideAt base M w B vp vc L) (hc : RatioAt w cv (lowN M N) (lowD M N)) (hM : 0 < M) (hM6 : M ≤ 4096) (hr : Rising (absL L)) (hlen : L.length ≤ 40000)
    (hbd : ∀ x, -100000000000000 ≤ atL (absL L) x ∧ atL (absL L) x ≤ 100000000000000) (h : RowAt w b o n z) (hz : ∀ i, i < n → 0 ≤ z i) (hN : sumN z n = N) (hN1 : 1 ≤ N) (hN6 : N ≤ 4096) (hn : n ≤ 256) :
    Calls Tryz.prog 16 #[.pointer (some ⟨B, 0, none⟩), .slice (some ⟨b, o, none⟩) n cap, cv] w fun e w' => e = .returned (.tuple #[]) ∧ ∃ vp' vc' L', WPuts base M B w w' (fun x => sumN (entV z N x) n) (2 * n) L vp' vc' L' := by
  obtain ⟨s, ad, l, ca, ad', l', ca', rfl⟩ := hc.parts
  have hzi : ∀ i, i < n → 0 ≤ z i ∧ z i ≤ 4096 := fun i hi => ⟨hz i hi, by have := sumN_ge hz hi; omega⟩
  have hle : ∀ k, k ≤ n → 0 ≤ sumN z k ∧ sumN z k ≤ 4096 := fun k hk => ⟨sumN_nonneg (fun i hi => hz i (by omega)), by have := sumN_mono hz hk; omega⟩
  obtain ⟨W0, hW0⟩ : ∃ W0, W0 = w.alloc (.cells #[.bool s, .slice ad l ca, .slice ad' l' ca'] 54) := ⟨_, rfl⟩
  have hb0 : Below w.heap.size w W0 := by rw [hW0]; exact new_below _ _
  have hnm0 := hW.not_mine' hb0 (Nat.le_refl _)
  have HC : Hid (∀ wr, Moved B W0 wr → wr.cell? ⟨w.heap.size, 0, none⟩ = some (.bool s) ∧ wr.cell? ⟨w.heap.size, 1, none⟩ = some (.slice ad l ca) ∧ wr.cell? ⟨w.heap.size, 2, none⟩ = some (.slice ad' l' ca')) := fun wr hm => by
    have hlt : w.heap.size < W0.heap.size := by rw [hW0]; simp
    refine ⟨?_, ?_, ?_⟩
    · rw [hm.cell hlt hnm0, hW0]; simp
    · rw [hm.cell hlt hnm0, hW0]; simp
    · rw [hm.cell hlt hnm0, hW0]; simp
  have HI0 : Hid (WPuts base M B w W0 (fun x => sumN (entV z N x) 0) (2 * 0) L vp vc L) := (WPuts.start hW hr (fun x => rfl) 0).later hb0
  have HM0 : Hid (Moved B W0 W0) := Moved.refl _ _
  have hS := Sum_some b o cap n z W0 (h.later hb0) (fun k hk => by have := hle k hk; omega) (fun i hi => by have := hzi i hi; omega) (by omega)
  rw [hN] at hS
  have HR := Hid.mk' h
  have HRA := Hid.mk' hc
  have HW0 := Hid.mk' hW0
  have HZI := Hid.mk' hzi
  have HBD := Hid.mk' hbd
  clear hW hc hr hbd h hz hzi hle hN hW0 hb0 hnm0
  go_enter Tryz.func16, Tryz.ntmps16
  go_upto_region 1 with fail
  rw [← HW0.out]
  go_wp2_with (go_at_call 25; refine hS.mono ?_; rintro e w1 ⟨rfl, hw1⟩; rw [hw1]; clear hw1)
  go_loopw [7, 8] (fun t _ wr => ∃ (k : Nat) (vp1 vc1 : Value) (L1 : List Ent), k ≤ n ∧ t = .int .i64 k ∧ Hid (WPuts base M B w wr (fun x => sumN (entV z N x) k) (2 * k) L vp1 vc1 L1) ∧ Hid (Moved B W0 wr)) (fun t _ _ => n - (intOf t).toNat)
  case atStart => exact ⟨0, vp, vc, L, by omega, rfl, HI0, HM0⟩
  case round =>
    clear HI0 HM0 hS
    obtain ⟨k, vp1, vc1, L1, hk, rfl, HI, HMV⟩ := hrel
    rcases Nat.lt_or_ge k n with h1 | h1
    · have hcell := HR.out.kept HI.out.kept k h1
      have hkn : (k : Int) < (n : Int) := by omega
      have hzk := HZI.out k h1
      have HV : Hid (∀ x, sumN (entV z N x) (k + 1) = sumN (entV z N x) k + (z k * multI x N + -(z k) * multI x (z k).toNat)) := fun x => by
        show sumN (entV z N x) k + entV z N x k = _
        unfold entV
        rw [Int.neg_mul]; omega
      have HB1 : Hid (∀ x, -100000100000000 ≤ atL (absL L1) x ∧ atL (absL L1) x ≤ 100000100000000) := fun x => by
        rw [HI.out.val]
        have h2 := HBD.out x
        have h3 := sumN_bound (f := entV z N x) (B := 200000) (n := k) (fun i hi => entV_le x (HZI.out i (by omega)) hN6)
        have : (k : Int) * 200000 ≤ 51200000 := by omega
        omega
      have hlen1 : L1.length ≤ 60000 := by have := HI.out.len; omega
      obtain ⟨y, hy⟩ := Int.eq_ofNat_of_zero_le hzk.1
      rw [hy] at hcell hzk HV
      simp only [Int.toNat_natCast] at HV
      have hy6 : y ≤ 4096 := by have := hzk.2; omega
      clear hy hzk
      by_cases hy0 : y = 0
      · subst hy0
        have HV0 : Hid (∀ x, sumN (entV z N x) k = sumN (entV z N x) (k + 1)) := fun x => by rw [HV.out x]; simp
        clear HV
        go_wp2_with fail
        exact ⟨⟨k + 1, vp1, vc1, L1, h1, by go_num, HI.out.congr (by omega) HV0.out, HMV⟩, by simp [intOf]; omega⟩
      · have hyI : ¬ (y : Int) = 0 := by omega
        have hyb : ((y : Int) == 0) = false := by simpa using hy0
        obtain ⟨c0, c1, c2⟩ := HC.out wr HMV.out
        have hBw := HI.out.wide.lt
        have HKS : Hid (∀ W, Below wr.heap.size wr W → (W.cell? ⟨w.heap.size, 0, none⟩ = some (.bool s) ∧ W.cell? ⟨w.heap.size, 1, none⟩ = some (.slice ad l ca) ∧ W.cell? ⟨w.heap.size, 2, none⟩ = some (.slice ad' l' ca')) ∧ W.cell? ⟨b, o + k, none⟩ = some (.int .i64 (y : Int))) := fun W hb => ⟨HC.out W (HMV.out.trans (Moved.of_below hb hBw)), (cell_past hcell hb).2⟩
        have HTI : Hid (∀ (W : World) (r : Value), Below wr.heap.size wr W → RatioAt W r (lowN N y) (lowD N y) → Calls Tryz.prog 30 #[.agg #[.bool s, .slice ad l ca, .slice ad' l' ca'], r] W fun e w' => ∃ r', e = .returned r' ∧ RatioAt w' r' (lowN M y) (lowD M y) ∧ Below W.heap.size W w') := fun W r hb hr' =>
          Times_low M N y _ r W (HRA.out.kept (HI.out.kept.trans (IntsKept.of_below hb))) hr' hM hM6 hN1 hN6 (by omega)
        have HRO : Hid (∀ W, Calls Tryz.prog 17 #[.int .i64 (y : Int), .int .i64 N] W fun e w' => ∃ r, e = .returned r ∧ RatioAt w' r (lowN N y) (lowD N y) ∧ Below W.heap.size W w') := fun W => RatioOf_low y N W (by omega) hN1 (by omega)
        have hcur0 : Below wr.heap.size wr wr := Below.refl _ _
        have hcur : Below wr.heap.size wr wr.drew := (Below.refl _ _).drew
        have hcurA : ∀ X, Below wr.heap.size wr (wr.alloc X).drew := fun X => (new_below _ _).drew
        go_upto_region 6 with fail
        clear c0 c1 c2 hcell
        go_cut [8] from 22 to 42 (fun s' wx => ∃ Bs : Nat, s' = .pointer (some ⟨Bs, 0, none⟩) ∧ Hid (RBox wr wx Bs (lowN M y) (lowD M y)))
        case first =>
          go_region_held3 (fun W => (W.cell? ⟨w.heap.size, 0, none⟩ = some (.bool s) ∧ W.cell? ⟨w.heap.size, 1, none⟩ = some (.slice ad l ca) ∧ W.cell? ⟨w.heap.size, 2, none⟩ = some (.slice ad' l' ca')) ∧ W.cell? ⟨b, o + k, none⟩ = some (.int .i64 (y : Int)))
            (first | exact HKS.out _ hcur0 | exact HKS.out _ hcur | exact HKS.out _ (hcurA _) | (refine HKS.out _ ?_; assumption) | (refine HKS.out _ (more_below ?_ _); assumption) | (refine HKS.out _ (below_set3 ?_ NB.hB _ _ _); assumption))
            (first
              | (go_at_call 30; refine (HTI.out _ _ ?_ (HX1.out _ ?_)).mono ?_; (first | exact hbw1 | exact more_below hbw1 _); (first | exact Below.refl _ _ | exact new_below _ _); rintro e w7 ⟨rv, rfl, hrv, hb7⟩; obtain ⟨sg, ad8, l8, cap8, ad9, l9, cap9, rfl⟩ := hrv.parts; (first | (have hbw7 := below_chain hbw1 hb7; try have NB := NB.later hb7) | (have hbw7 := below_chain (more_below hbw1 _) hb7; have NB := newBox3_of hbw1 hb7)); (try (have y0 := NB.c0; have y1 := NB.c1; have y2 := NB.c2; have y3 := NB.f0; have y4 := NB.f1; have y5 := NB.f2)); have HRV := Hid.mk' hrv; clear hrv hb7)
              | (go_at_call 17; refine (HRO.out _).mono ?_; rintro e w5 ⟨r5, rfl, hr5, hb5⟩; obtain ⟨sg5, ad5, l5, cap5, ad6, l6, cap6, rfl⟩ := hr5.parts; (first | have hbw1 := below_chain hcur hb5 | (have hbw1 := below_chain (hcurA _) hb5; have NB := newBox3_of hcur0 (below_chain ((Below.refl _ _).drew) hb5))); have HX1 : Hid (∀ W, Below w5.heap.size w5 W → RatioAt W (.agg #[.bool sg5, .slice ad5 l5 cap5, .slice ad6 l6 cap6]) (lowN N y) (lowD N y)) := (fun W hb => hr5.later hb); clear hr5 hb5))
          all_goals
            go_wp2_with fail
            go_meet
            first | exact ⟨_, rfl, rBox_late hbw7 HRV.out⟩ | exact ⟨_, rfl, rBox_soon hbw7 HRV.out NB⟩
        case rest =>
        obtain ⟨Bs, rfl, HRB⟩ := hcut
        obtain ⟨Wc, hWc⟩ : ∃ Wc, Wc = wc := ⟨_, rfl⟩
        rw [← hWc] at HRB ⊢
        clear hWc hcur0 hcur hcurA HTI HRO
        obtain ⟨sg, ad8, l8, cap8, ad9, l9, cap9, x0, x1, x2, hrat⟩ := HRB.out.box
        have HIc := Hid.mk' (HI.out.later HRB.out.below)
        have HNM : Hid (¬ Mine B Wc Bs) := HI.out.wide.not_mine' HRB.out.below HRB.out.hB
        have hnum := Number_by base M B N (y : Int) _ vp1 vc1 L1 Wc HIc.out.wide hrat hM hM6 HIc.out.rise (by omega) hN1 (by omega) (fun x => by have := HB1.out x; omega) (by omega)
        have HX0 := Hid.mk' (And.intro x0 (And.intro x1 x2))
        have HRT := Hid.mk' hrat
        have HCE := Hid.mk' (HKS.out Wc HRB.out.below).2
        have HBL : Hid (Bs < Wc.heap.size) := cell_lt x0
        clear hrat
        go_wp2_with fail
        refine hnum.mono ?_
        clear hnum x0 x1 x2
        rintro e w2 ⟨rfl, vp2, vc2, L2, hwp2⟩
        have HK2 : Hid (∀ W, IntsKept w2 W → Moved B w2 W → (W.cell? ⟨Bs, 0, none⟩ = some (.bool sg) ∧ W.cell? ⟨Bs, 1, none⟩ = some (.slice ad8 l8 cap8) ∧ W.cell? ⟨Bs, 2, none⟩ = some (.slice ad9 l9 cap9)) ∧ W.cell? ⟨b, o + k, none⟩ = some (.int .i64 (y : Int))) := fun W hk' hm' => by
          have hm := hwp2.moved.trans hm'
          refine ⟨⟨?_, ?_, ?_⟩, hk' _ _ (hwp2.kept _ _ HCE.out)⟩
          · rw [hm.cell HBL.out HNM.out]; exact HX0.out.1
          · rw [hm.cell HBL.out HNM.out]; exact HX0.out.2.1
          · rw [hm.cell HBL.out HNM.out]; exact HX0.out.2.2
        have hBw2 := hwp2.wide.lt
        have HKS2 : Hid (∀ W, Below w2.heap.size w2 W → (W.cell? ⟨Bs, 0, none⟩ = some (.bool sg) ∧ W.cell? ⟨Bs, 1, none⟩ = some (.slice ad8 l8 cap8) ∧ W.cell? ⟨Bs, 2, none⟩ = some (.slice ad9 l9 cap9)) ∧ W.cell? ⟨b, o + k, none⟩ = some (.int .i64 (y : Int))) := fun W hb => HK2.out W (IntsKept.of_below hb) (Moved.of_below hb hBw2)
        have HRZ : Hid (∀ W, Calls Tryz.prog 17 #[.int .i64 0, .int .i64 1] W fun e w' => ∃ r, e = .returned r ∧ RatioAt w' r (lowN 1 0) (lowD 1 0) ∧ Below W.heap.size W w') := fun W => RatioOf_low 0 1 W (by omega) (by omega) (by omega)
        have HMI : Hid (∀ (W : World) (r : Value), Below w2.heap.size w2 W → RatioAt W r (lowN 1 0) (lowD 1 0) → Calls Tryz.prog 26 #[r, .agg #[.bool sg, .slice ad8 l8 cap8, .slice ad9 l9 cap9]] W fun e w' => ∃ r', e = .returned r' ∧ RatioAt w' r' (lowN M (-(y : Int))) (lowD M (-(y : Int))) ∧ Below W.heap.size W w') := fun W r hb hr' =>
          Minus_low M y r _ W hr' (HRT.out.kept (hwp2.kept.trans (IntsKept.of_below hb))) hM hM6 (by omega)
        have hl2 : L2.length ≤ 60020 := by have := hwp2.len; omega
        have HNU : Hid (∀ (W : World) (r : Value), Below w2.heap.size w2 W → RatioAt W r (lowN M (-(y : Int))) (lowD M (-(y : Int))) → Calls Tryz.prog 27 #[.pointer (some ⟨B, 0, none⟩), .int .i64 (y : Int), r] W fun e w' => e = .returned (.tuple #[]) ∧ (∃ vp' vc' L', WPuts base M B w w' (fun x => sumN (entV z N x) (k + 1)) (2 * (k + 1)) L vp' vc' L') ∧ IntsKept w2 w' ∧ Moved B w2 w') := fun W r hb hr' => by
          have hw' := hwp2.later hb
          refine (Number_by base M B y (-(y : Int)) r vp2 vc2 L2 W hw'.wide hr' hM hM6 hw'.rise (by omega) (by omega) (by omega) (fun x => by rw [hw'.val]; have h2 := HB1.out x; have h3 := mul_weight (t := (y : Int)) (by omega) (multI_small x (n := N) (by omega)); omega) (by omega)).mono ?_
          rintro e w' ⟨rfl, vp', vc', L', hq⟩
          exact ⟨rfl, ⟨vp', vc', L', ((HIc.out.trans hw').trans hq).congr (by omega) (fun x => by rw [HV.out x]; omega)⟩, (IntsKept.of_below hb).trans hq.kept, (Moved.of_below hb hBw2).trans hq.moved⟩
        have HMB : Hid (Moved B W0 w2) := (HMV.out.trans (Moved.of_below HRB.out.below hBw)).trans hwp2.moved
        have hcur0 : Below w2.heap.size w2 w2 := Below.refl _ _
        have hcur : Below w2.heap.size w2 w2.drew := (Below.refl _ _).drew
        clear hwp2 HIc HX0 HRT HCE HKS HRB HI HV
        go_upto_region 8 with fail
        go_region_held3 (fun W => (W.cell? ⟨Bs, 0, none⟩ = some (.bool sg) ∧ W.cell? ⟨Bs, 1, none⟩ = some (.slice ad8 l8 cap8) ∧ W.cell? ⟨Bs, 2, none⟩ = some (.slice ad9 l9 cap9)) ∧ W.cell? ⟨b, o + k, none⟩ = some (.int .i64 (y : Int)))
          (first | exact HKS2.out _ hcur0 | exact HKS2.out _ hcur | exact HKS2.out _ hbw3 | exact HKS2.out _ hbw4 | exact HS5.out)
          (first
            | (go_at_call 27; refine (HNU.out _ _ hbw4 HR4.out).mono ?_; rintro e w5 ⟨rfl, ⟨vp5, vc5, L5, hq5⟩, hk5, hm5⟩; have HQ5 := Hid.mk' hq5; have HM5 := Hid.mk' hm5; have HS5 := Hid.mk' (HK2.out w5 hk5 hm5); clear hq5 hk5 hm5)
            | (go_at_call 26; refine (HMI.out _ _ hbw3 HR3.out).mono ?_; rintro e w4 ⟨r4, rfl, hr4, hb4⟩; have hbw4 := below_chain hbw3 hb4; have HR4 := Hid.mk' hr4; clear hr4 hb4)
            | (go_at_call 17; refine (HRZ.out _).mono ?_; rintro e w3 ⟨r3, rfl, hr3, hb3⟩; have hbw3 := below_chain hcur hb3; have HR3 := Hid.mk' hr3; clear hr3 hb3))
        all_goals
          go_wp2_with fail
          exact ⟨⟨k + 1, vp5, vc5, L5, h1, by go_num, HQ5, HMB.out.trans HM5.out⟩, by simp [intOf]; omega⟩
    · obtain rfl : k = n := by omega
      go_wp2_with fail
      go_end0
      exact ⟨rfl, vp1, vc1, L1, HI.out⟩
end Go.Proofs.YtdhbphdgdkfhfaaGreatDoor

/- The document's Told of a sum that has a form; EntropyOf. -/
namespace Go.Proofs.YtdhbphdgdkfhfaaGreatDoor
open Go.RowKit

theorem row_form {w : World} {base : Nat} {t : TypeId} {sz : Nat} {v : Value} {n : Nat} {xs : List Value} (h : w.ownsRow base t sz v n xs) : ∃ ad cap, v = .slice ad n cap := by
  rcases h.2 with ⟨rfl, h0⟩ | ⟨gg, cap', cur', rfl, _⟩
  · exact ⟨none, 0, by rw [h0]⟩
  · exact ⟨_, _, rfl⟩
theorem WTold_by (base M B : Nat) (vp vc : Value) (L : List Ent) (f : Int → Int) (w : World) (hW : WideAt base M w B vp vc L) (hr : Rising (absL L)) (hM : 0 < M) (hM6 : M ≤ 4096) (hlen : L.length ≤ 90000) (hv : ∀ x, atL (absL L) x = f x) (hf : ∀ x, -1000000000 ≤ f x ∧ f x ≤ 1000000000) :
    Calls Tryz.prog 18 #[.pointer (some ⟨B, 0, none⟩)] w fun e w' => ∃ dn v, e = .returned (.tuple #[.agg #[.int .i64 dn, v], .int .i64 0]) ∧ LogBy w.heap.size M f w' dn v ∧ Below w.heap.size w w' := by
  have p3 : (1000000 : Nat) ^ 3 = 1000000000000000000 := by decide
  obtain ⟨adp, capp, rfl⟩ := row_form hW.P
  obtain ⟨adc, capc, rfl⟩ := row_form hW.C
  have hzs : (absL L).map Prod.snd = zsOf L := by simp [absL, zsOf]
  have hz : ∀ e ∈ L, e.z.natAbs ≤ 1000000000 := fun e he => by
    have h0 := atL_mem hr (absL_mem he)
    simp only at h0
    have h1 := hf (e.p : Int)
    rw [← hv, h0] at h1
    omega
  have hfit : FitsW M (gList M (zsOf L)) L := ⟨Nat.le_trans (Nat.div_le_self _ _) (by omega), fun e he => by
    rw [Int.natAbs_tdiv]
    exact Nat.le_trans (Nat.div_le_self _ _) (by have := hz e he; omega)⟩
  refine (WTold_any base M B adp adc capp capc L 3 (gList M (zsOf L)) true w hW hM (by omega) (fun e he => by rw [p3]; have := hz e he; omega) (by rw [p3]; omega) (by decide) (by decide) rfl ⟨fun _ => hfit, fun _ => rfl⟩).mono ?_
  rintro e w' ⟨⟨_, v, rfl, hrow⟩ | ⟨h0, _⟩, hb⟩
  · refine ⟨_, v, rfl, ⟨absL L, hr, hv, by rw [absL_length]; exact hlen, by rw [hzs], ?_⟩, hb⟩
    rw [hzs, ← flat_cells]
    exact hrow
  · cases h0

set_option maxRecDepth 100000 in
set_option maxHeartbeats 2000000 in
theorem EntropyOf_some (b o cap n N : Nat) (z : Nat → Int) (w : World) (h : RowAt w b o n z) (hN : sumN z n = N) (hz : ∀ i, i < n → 0 ≤ z i) (hn : n ≤ 256) (hN1 : 1 ≤ N) (hN6 : N ≤ 4096) :
    Calls Tryz.prog 7 #[.slice (some ⟨b, o, none⟩) n cap] w fun e w' => ∃ dn v, e = .returned (.tuple #[.agg #[.int .i64 dn, v], .int .i64 0]) ∧ LogBy w.heap.size N (fun x => sumN (entV z N x) n) w' dn v ∧ Below w.heap.size w w' := by
  have hzi : ∀ i, i < n → 0 ≤ z i ∧ z i ≤ 4096 := fun i hi => ⟨hz i hi, by have := sumN_ge hz hi; omega⟩
  obtain ⟨W0, hW0⟩ : ∃ W0, W0 = w.alloc (.cells #[.int .i64 0, .slice none 0 0] 27) := ⟨_, rfl⟩
  have hb0 : Below w.heap.size w W0 := by rw [hW0]; exact new_below _ _
  have hz0 : W0.heap.size = w.heap.size + 1 := by rw [hW0]; simp
  have hres : ∀ W, Below W0.heap.size W0 W → W.cell? ⟨w.heap.size, 0, none⟩ = some (.int .i64 0) ∧ W.cell? ⟨w.heap.size, 1, none⟩ = some (.slice none 0 0) ∧ W.frozen? ⟨w.heap.size, 0, none⟩ = false ∧ W.frozen? ⟨w.heap.size, 1, none⟩ = false := fun W hb => by
    rw [hW0] at hb
    exact res_past hb
  obtain ⟨W1, hW1⟩ : ∃ W1, W1 = W0.alloc (.cells #[.slice none 0 0, .slice none 0 0] 48) := ⟨_, rfl⟩
  have hb1 : Below W0.heap.size W0 W1 := by rw [hW1]; exact new_below _ _
  have hwd : WideAt W0.heap.size N W1 W0.heap.size (.slice none 0 0) (.slice none 0 0) [] := by
    rw [hW1]
    exact ⟨Nat.le_refl _, by simp, by simp, by simp, by simp, World.ownsRow_nil _ _ _ _, World.ownsRow_nil _ _ _ _, (fun e he => by cases he), fun _ => ⟨rfl, rfl⟩⟩
  have hro : Calls Tryz.prog 17 #[.int .i64 1, .int .i64 1] W1 fun e w' => ∃ r, e = .returned r ∧ RatioAt w' r (lowN N N) (lowD N N) ∧ Below W1.heap.size W1 w' := by
    have := RatioOf_low 1 1 W1 (by omega) (by omega) (by omega)
    rw [(low_one 1).1, (low_one 1).2] at this
    rw [(low_self hN1).1, (low_self hN1).2]
    exact this
  have hent : ∀ (W : World) (r : Value), Below W1.heap.size W1 W → RatioAt W r (lowN N N) (lowD N N) → Calls Tryz.prog 16 #[.pointer (some ⟨W0.heap.size, 0, none⟩), .slice (some ⟨b, o, none⟩) n cap, r] W fun e w' => e = .returned (.tuple #[]) ∧ ∃ vp' vc' L', WPuts W0.heap.size N W0.heap.size W w' (fun x => sumN (entV z N x) n) (2 * n) [] vp' vc' L' := fun W r hb hr' =>
    WEntropy_some W0.heap.size N W0.heap.size b o cap n N z r _ _ [] W (hwd.later hb) hr' hN1 hN6 List.Pairwise.nil (by simp) (fun x => by simp [absL, atL]) ((h.later (below_chain hb0 hb1)).later hb) hz hN hN1 hN6 hn
  have HB0 := Hid.mk' hb0
  have HB1 := Hid.mk' hb1
  have HRES := Hid.mk' hres
  have HW0 := Hid.mk' hW0
  have HW1 := Hid.mk' hW1
  have HZ0 := Hid.mk' hz0
  have HENT := Hid.mk' hent
  have HF : Hid (∀ x, -1000000000 ≤ sumN (entV z N x) n ∧ sumN (entV z N x) n ≤ 1000000000) := fun x => ent_bound hzi hN6 hn x
  clear hb0 hb1 hres hW0 hW1 hz0 hent hwd h hz hzi hN
  go_enter Tryz.func7, Tryz.ntmps7
  go_upto_region 1 with fail
  rw [← HW0.out]
  go_upto_region 2 with fail
  rw [← HW1.out]
  go_wp2_with (first
    | (go_at_call 17; refine hro.mono ?_; rintro e w2 ⟨r2, rfl, hr2, hb2⟩; have HR2 := Hid.mk' hr2; have HB2 := Hid.mk' hb2; obtain ⟨s, ad, l, ca, ad', l', ca', rfl⟩ := hr2.parts; clear hr2 hb2)
    | (go_at_call 16; refine (HENT.out _ _ HB2.out HR2.out).mono ?_; rintro e w3 ⟨rfl, vp3, vc3, L3, h3⟩; have H3 := Hid.mk' h3; clear h3))
  have hbA : Below W0.heap.size W0 w3 := (below_chain HB1.out HB2.out).trans H3.out.below
  have ht := WTold_by W0.heap.size N W0.heap.size vp3 vc3 L3 (fun x => sumN (entV z N x) n) w3 H3.out.wide H3.out.rise hN1 hN6 (by have := H3.out.len; simp at this; omega) (fun x => by have := H3.out.val x; simpa [absL, atL] using this) HF.out
  refine ht.mono ?_
  clear ht
  rintro e w4 ⟨dn, v, rfl, hlb, hb4⟩
  obtain ⟨c0, c1, q0, q1⟩ := HRES.out w4 (below_chain hbA hb4)
  have HBW := Hid.mk' (below_chain HB0.out (below_chain hbA hb4))
  have HLT : Hid (w.heap.size < w3.heap.size) := by have h1 := HZ0.out; have h2 := hbA.size; show _ < _; omega
  have HLB := Hid.mk' hlb
  obtain ⟨ad9, n9, c9, rfl⟩ := hlb.form
  clear hlb hbA hb4 HRES
  go_wp2_with fail
  refine bodyPost_ret (v := .tuple #[.agg #[.int .i64 dn, .slice ad9 n9 c9], .int .i64 0]) (by simp [results, Tryz.results7, go_sem, c0, c1]) rfl ⟨_, .slice ad9 n9 c9, rfl, (HLB.out.set HLT.out _ _).lower (Nat.le_of_lt HLT.out), ?_⟩
  exact (HBW.out.setCell (by simp) _).setCell (by simp) _
end Go.Proofs.YtdhbphdgdkfhfaaGreatDoor

/- A fraction's box beside a Wide. -/
namespace Go.Proofs.YtdhbphdgdkfhfaaGreatDoor
open Go.RowKit

/-- A fraction's box that a Wide's calls leave alone. -/
structure KBox (B : Nat) (W : World) (Bs : Nat) (s : Bool) (ad : Option Addr) (l cap : Nat) (ad' : Option Addr) (l' cap' : Nat) : Prop where
  c0 : W.cell? ⟨Bs, 0, none⟩ = some (.bool s)
  c1 : W.cell? ⟨Bs, 1, none⟩ = some (.slice ad l cap)
  c2 : W.cell? ⟨Bs, 2, none⟩ = some (.slice ad' l' cap')
  no : ¬ Mine B W Bs
theorem KBox.moved {B : Nat} {W W' : World} {Bs : Nat} {s : Bool} {ad : Option Addr} {l cap : Nat} {ad' : Option Addr} {l' cap' : Nat} (h : KBox B W Bs s ad l cap ad' l' cap') (hm : Moved B W W') : KBox B W' Bs s ad l cap ad' l' cap' := by
  have hlt : Bs < W.heap.size := cell_lt h.c0
  exact ⟨by rw [hm.cell hlt h.no]; exact h.c0, by rw [hm.cell hlt h.no]; exact h.c1, by rw [hm.cell hlt h.no]; exact h.c2, (hm.block _ hlt h.no).2⟩
theorem KBox.later {B : Nat} {W W' : World} {Bs : Nat} {s : Bool} {ad : Option Addr} {l cap : Nat} {ad' : Option Addr} {l' cap' : Nat} (h : KBox B W Bs s ad l cap ad' l' cap') (hb : Below W.heap.size W W') (hB : B < W.heap.size) : KBox B W' Bs s ad l cap ad' l' cap' := h.moved (Moved.of_below hb hB)
end Go.Proofs.YtdhbphdgdkfhfaaGreatDoor
