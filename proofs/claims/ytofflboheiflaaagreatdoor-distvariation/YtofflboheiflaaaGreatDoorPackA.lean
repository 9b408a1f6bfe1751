/- Two lists that tell the same; the document's sum of two in form. -/
import Derived.Test.YtofflboheiflaaaGreatDoorLogSum
import Derived.Test.YtofflboheiflaaaGreatDoorAddAny
import Derived.Test.YtofflboheiflaaaGreatDoorPutEnt
import Derived.Test.YtofflboheiflaaaGreatDoorValidWalk
import Derived.Deep.QuietTactic
import Derived.BigQuiet
import Derived.Test.YtofflboheiflaaaGreatDoorPlus
import Derived.Test.YtofflboheiflaaaGreatDoorWideMath
import Derived.Test.YtofflboheiflaaaGreatDoorWLog
import Derived.Test.YtofflboheiflaaaGreatDoorWTold
namespace Go.Proofs.YtofflboheiflaaaGreatDoor
open Go.RowKit

def nzL (l : List (Int × Int)) : List (Int × Int) := l.filter fun e => !decide (e.2 = 0)
theorem nz_rise {l : List (Int × Int)} (h : Rising l) : Rising (nzL l) := List.Pairwise.filter _ h
theorem nz_nz {l : List (Int × Int)} : ∀ e ∈ nzL l, e.2 ≠ 0 := fun e he => by
  have := (List.mem_filter.1 he).2
  simpa using this
theorem nz_at {l : List (Int × Int)} (h : Rising l) (x : Int) : atL (nzL l) x = atL l x := by
  by_cases h0 : atL l x = 0
  · rw [h0]
    by_cases h1 : atL (nzL l) x = 0
    · exact h1
    · have h2 := (List.mem_filter.1 (atL_some h1)).1
      have h3 := atL_mem h h2
      simp only at h3
      exact h3.symm.trans h0
  · exact atL_mem (nz_rise h) (List.mem_filter.2 ⟨atL_some h0, by simpa using h0⟩)
theorem nz_same {l l' : List (Int × Int)} (h : Rising l) (h' : Rising l') (he : ∀ x, atL l x = atL l' x) : nzL l = nzL l' := rising_ext (nz_rise h) (nz_rise h') nz_nz nz_nz (fun x => by rw [nz_at h, nz_at h', he])
theorem nz_snd (l : List (Int × Int)) : (nzL l).map Prod.snd = (l.map Prod.snd).filter fun x => !decide (x = 0) := by
  unfold nzL
  rw [List.filter_map]
  rfl
theorem gList_same {l l' : List (Int × Int)} (h : Rising l) (h' : Rising l') (he : ∀ x, atL l x = atL l' x) (g : Nat) : gList g (l.map Prod.snd) = gList g (l'.map Prod.snd) := by
  rw [← gList_zeros, ← gList_zeros (l'.map Prod.snd), ← nz_snd, ← nz_snd, nz_same h h' he]
theorem over_same {l l' : List (Int × Int)} (h : Rising l) (h' : Rising l') (he : ∀ x, atL l x = atL l' x) (G : Nat) : overL G l = overL G l' := rising_ext (rising_over h G) (rising_over h' G) (fun e he => over_nz he) (fun e he => over_nz he) (fun x => by rw [atL_over h, atL_over h', he])
theorem fits_same {l l' : List (Int × Int)} (h' : Rising l') (he : ∀ x, atL l x = atL l' x) {M G : Nat} (hf : FitsL M G l) : FitsL M G l' := by
  refine ⟨hf.1, fun e hm => ?_⟩
  by_cases h0 : e.2 = 0
  · rw [h0]; simp
  · have h1 := atL_mem h' hm
    have h2 := he e.1
    rw [h1] at h2
    have h3 := hf.2 _ (atL_some (l := l) (x := e.1) (by rw [h2]; exact h0))
    simpa [h2] using h3
theorem gcdL_list {D : Nat} {l : List (Int × Int)} (hr : Rising l) : gcdL (D : Int) (atL l) (l.map Prod.fst) l.length = gList D (l.map Prod.snd) := by
  have h0 : gcdL (D : Int) (atL l) (l.map Prod.fst) l.length = gcdTo (D : Int) (cOf l) l.length := by
    have aux : ∀ k, k ≤ l.length → gcdTo (D : Int) (fun i => atL l ((l.map Prod.fst).getD i 0)) k = gcdTo (D : Int) (cOf l) k := by
      intro k
      induction k with
      | zero => intro _; rfl
      | succ k ih =>
        intro hk
        show Int.gcd (gcdTo (D : Int) (fun i => atL l ((l.map Prod.fst).getD i 0)) k : Int) (atL l ((l.map Prod.fst).getD k 0)) = Int.gcd (gcdTo (D : Int) (cOf l) k : Int) (cOf l k)
        rw [ih (by omega)]
        have : atL l ((l.map Prod.fst).getD k 0) = cOf l k := by rw [getD_fst (by omega)]; exact atL_mem hr (getD_mem (by omega))
        rw [this]
    exact aux _ (Nat.le_refl _)
  rw [h0, gcdTo_list _ _ _ (Nat.le_refl _), List.take_length, Int.natAbs_natCast]
theorem sumAt_list {t : List (Int × Int)} (hr : Rising t) (x : Int) : ∀ k, k ≤ t.length → sumAt (pOf t) (cOf t) x k = atL (t.take k) x
  | 0, _ => by simp [sumAt, atL]
  | k + 1, h => by
    rw [atL_take hr (by omega)]
    show sumAt _ _ _ k + _ = _
    rw [sumAt_list hr x k (by omega)]
    by_cases hx : x = pOf t k
    · rw [if_pos hx, if_pos hx.symm]
    · rw [if_neg hx, if_neg (Ne.symm hx)]
theorem sumAt_all {t : List (Int × Int)} (hr : Rising t) (x : Int) : sumAt (pOf t) (cOf t) x t.length = atL t x := by rw [sumAt_list hr x _ (Nat.le_refl _), List.take_length]
theorem sumAt_le {p c : Nat → Int} {n : Nat} (h : ∀ i, i < n → 0 ≤ p i ∧ -1099511627776 ≤ c i ∧ c i ≤ 1099511627776) (x : Int) : ∀ k, k ≤ n → (sumAt p c x k).natAbs ≤ k * 1099511627776
  | 0, _ => by simp [sumAt]
  | k + 1, hk => by
    have ih := sumAt_le h x k (by omega)
    have h1 := h k (by omega)
    show (sumAt p c x k + if x = p k then c k else 0).natAbs ≤ _
    by_cases hx : x = p k
    · rw [if_pos hx]; omega
    · rw [if_neg hx]; omega
theorem mul_bound {F s : Int} {a b : Nat} (hF : F.natAbs ≤ a) (hs : s.natAbs ≤ b) : (F * s).natAbs ≤ a * b := by rw [Int.natAbs_mul]; exact Nat.mul_le_mul hF hs
theorem okLog_pc {d : Int} {n : Nat} {p c : Nat → Int} (h : OkLog d n p c) : ∀ i, i < n → 0 ≤ p i ∧ -1099511627776 ≤ c i ∧ c i ≤ 1099511627776 := fun i hi => by
  have h1 := (h.2.2.1 i hi).2
  exact ⟨by have := h1.2.2.2.2.1; omega, h1.2.2.1, h1.2.2.2.1⟩
theorem LogAt.listed' {w : World} {sv : Value} {n : Nat} {p c : Nat → Int} (h : LogAt w sv n p c) : ∃ t : List (Int × Int), n = t.length ∧ LogAt w sv t.length (pOf t) (cOf t) := by
  refine ⟨(List.range n).map fun i => (p i, c i), by simp, ?_⟩
  rcases h with ⟨ad, cap, h1, h2⟩ | ⟨b, o, cap, h1, h2, h3⟩
  · exact Or.inl ⟨ad, cap, h1, by simp [h2]⟩
  · refine Or.inr ⟨b, o, cap, by simpa using h1, by simpa using h2, fun i hi => ?_⟩
    have hi' : i < n := by simpa using hi
    have e1 : pOf ((List.range n).map fun i => (p i, c i)) i = p i := by simp [pOf, List.getD, hi']
    have e2 : cOf ((List.range n).map fun i => (p i, c i)) i = c i := by simp [cOf, List.getD, hi']
    rw [e1, e2]
    exact h3 i hi'

/-- The answer of a sum: in form and nil, or nothing and ErrBound. -/
def SaidOf (M : Nat) (l : List (Int × Int)) (a : Nat → Addr) (w : World) (dn : Int) (v er : Value) : Prop := (FitsL M (gList M (l.map Prod.snd)) l ∧ dn = ((M / gList M (l.map Prod.snd) : Nat) : Int) ∧ er = .nilIface ∧ ListAt w v (overL (gList M (l.map Prod.snd)) l)) ∨ (¬ FitsL M (gList M (l.map Prod.snd)) l ∧ dn = 0 ∧ v = .slice none 0 0 ∧ er = .iface 179 (.pointer (some (a 1))))
theorem ToldOf.same {M : Nat} {l l' : List (Int × Int)} (h : Rising l) (h' : Rising l') (he : ∀ x, atL l x = atL l' x) {w : World} {dn : Int} {v : Value} {code : Int} (ht : ToldOf M l w dn v code) : ToldOf M l' w dn v code := by
  have hg := gList_same h h' he M
  have ho := over_same h h' he (gList M (l'.map Prod.snd))
  rcases ht with ⟨h1, h2, h3, h4⟩ | ⟨h1, h2, h3, h4⟩
  · rw [hg] at h1 h2 h4
    rw [ho] at h4
    exact Or.inl ⟨fits_same h' he h1, h2, h3, h4⟩
  · rw [hg] at h1
    exact Or.inr ⟨fun hf => h1 (fits_same h (fun x => (he x).symm) hf), h2, h3, h4⟩
theorem ToldOf.later {M : Nat} {l : List (Int × Int)} {w w' : World} {dn : Int} {v : Value} {code : Int} (ht : ToldOf M l w dn v code) (hb : Below w.heap.size w w') : ToldOf M l w' dn v code := by
  rcases ht with ⟨h1, h2, h3, h4⟩ | h
  · exact Or.inl ⟨h1, h2, h3, OwnAt.later h4 hb⟩
  · exact Or.inr h
theorem SaidOf.later {M : Nat} {l : List (Int × Int)} {a : Nat → Addr} {w w' : World} {dn : Int} {v er : Value} (ht : SaidOf M l a w dn v er) (hb : Below w.heap.size w w') : SaidOf M l a w' dn v er := by
  rcases ht with ⟨h1, h2, h3, h4⟩ | h
  · exact Or.inl ⟨h1, h2, h3, OwnAt.later h4 hb⟩
  · exact Or.inr h

end Go.Proofs.YtofflboheiflaaaGreatDoor

/- dist.sumOver: a sum of all that a function puts. -/
namespace Go.Proofs.YtofflboheiflaaaGreatDoor
open Go.RowKit Go.Maps

/-- What is told of a sum that has a form: f over M. -/
def LogBy (base M : Nat) (f : Int → Int) (w : World) (dn : Int) (v : Value) : Prop := ∃ l : List (Int × Int), Rising l ∧ (∀ x, atL l x = f x) ∧ l.length ≤ 90000 ∧ dn = ((M / gList M (l.map Prod.snd) : Nat) : Int) ∧ w.ownsRow base 64 2 v (overL (gList M (l.map Prod.snd)) l).length (termCells (pOf (overL (gList M (l.map Prod.snd)) l)) (cOf (overL (gList M (l.map Prod.snd)) l)) (overL (gList M (l.map Prod.snd)) l).length)
theorem LogBy.form {base M : Nat} {f : Int → Int} {w : World} {dn : Int} {v : Value} (h : LogBy base M f w dn v) : ∃ ad n c, v = .slice ad n c := by
  obtain ⟨l, _, _, _, _, hr⟩ := h
  rcases hr.2 with ⟨rfl, _⟩ | ⟨gg, cap', cur', rfl, _⟩
  · exact ⟨_, _, _, rfl⟩
  · exact ⟨_, _, _, rfl⟩
theorem LogBy.later {base M : Nat} {f : Int → Int} {w w' : World} {dn : Int} {v : Value} (h : LogBy base M f w dn v) (hb : Below w.heap.size w w') : LogBy base M f w' dn v := by
  obtain ⟨l, h1, h2, h3, h5, hr⟩ := h
  exact ⟨l, h1, h2, h3, h5, ownsRow_past hr hb⟩
theorem LogBy.lower {base base' M : Nat} {f : Int → Int} {w : World} {dn : Int} {v : Value} (h : LogBy base M f w dn v) (hb : base' ≤ base) : LogBy base' M f w dn v := by
  obtain ⟨l, h1, h2, h3, h5, hr⟩ := h
  exact ⟨l, h1, h2, h3, h5, row_base hr hb⟩
theorem LogBy.set {base M : Nat} {f : Int → Int} {w : World} {dn : Int} {v : Value} (h : LogBy base M f w dn v) {B : Nat} (hB : B < base) (x y : Value) : LogBy base M f ((w.setCell ⟨B, 0, none⟩ x).setCell ⟨B, 1, none⟩ y) dn v := by
  obtain ⟨l, h1, h2, h3, h5, hr⟩ := h
  exact ⟨l, h1, h2, h3, h5, ownsRow_setCell_below (ownsRow_setCell_below hr (a := ⟨B, 0, none⟩) hB x) (a := ⟨B, 1, none⟩) hB y⟩
theorem LogBy.list {base M : Nat} {f : Int → Int} {w : World} {dn : Int} {v : Value} (h : LogBy base M f w dn v) : ∃ l : List (Int × Int), Rising l ∧ (∀ x, atL l x = f x) ∧ l.length ≤ 90000 ∧ dn = ((M / gList M (l.map Prod.snd) : Nat) : Int) ∧ ListAt w v (overL (gList M (l.map Prod.snd)) l) := by
  obtain ⟨l, h1, h2, h3, h5, hr⟩ := h
  exact ⟨l, h1, h2, h3, h5, ownAt_of_row hr⟩

set_option maxRecDepth 100000 in
set_option maxHeartbeats 2000000 in
theorem sumOver_any (K : Nat) (cap : Array Value) (M c : Nat) (f : Int → Int) (w : World) (hent : ∀ (args : Array Value) (w : World), (callFunc K args).run Tryz.prog w = .ok (.enter K args) w) (hM : 1 ≤ M) (hM6 : M ≤ 4096) (hc : c ≤ 4000) (hf : ∀ x, -1000000000 ≤ f x ∧ f x ≤ 1000000000)
    (hp : ∀ (W : World) (mb : Nat), Below w.heap.size w W → W.ownsMap Tryz.prog 3 (plainElem (H := Unit) Tryz.prog 3) mb 0 (mapOf []) → Calls Tryz.prog K (#[putV M mb] ++ cap) W fun e w' => e = .returned (.tuple #[]) ∧ ∃ l nn, Puts W w' mb f c [] 0 l nn) :
    Calls Tryz.prog 36 #[.int .i64 M, .func (.func K) #[] cap] w fun e w' => ∃ dn v, e = .returned (.tuple #[.agg #[.int .i64 dn, v], .nilIface]) ∧ LogBy w.heap.size M f w' dn v ∧ Below w.heap.size w w' := by
  obtain ⟨W0, hW0⟩ : ∃ W0, W0 = w.alloc (.cells #[.int .i64 0, .slice none 0 0] 45) := ⟨_, rfl⟩
  have hb0 : Below w.heap.size w W0 := by rw [hW0]; exact new_below _ _
  have hres : ∀ W, Below W0.heap.size W0 W → W.cell? ⟨w.heap.size, 0, none⟩ = some (.int .i64 0) ∧ W.cell? ⟨w.heap.size, 1, none⟩ = some (.slice none 0 0) ∧ W.frozen? ⟨w.heap.size, 0, none⟩ = false ∧ W.frozen? ⟨w.heap.size, 1, none⟩ = false := fun W hb => by
    rw [hW0] at hb
    obtain ⟨q0, q1, q2, q3⟩ := res_past hb
    exact ⟨q0, q1, q2, q3⟩
  have hsz : W0.heap.size = w.heap.size + 1 := by rw [hW0]; simp
  have hov := newSum_any (M : Int) W0
  have HP := Hid.mk' hp
  have HF := Hid.mk' hf
  have HB0 := Hid.mk' hb0
  have HRES := Hid.mk' hres
  have HW0 := Hid.mk' hW0
  have HSZ := Hid.mk' hsz
  clear hp hf hb0 hres hW0 hsz
  go_enter Tryz.func36, Tryz.ntmps36
  go_wp2_with fail
  rw [← HW0.out]
  refine hov.mono ?_
  clear hov
  rintro e w1 ⟨rfl, hown1, hb1⟩
  have HB1 := Hid.mk' hb1
  have ho1 : (w1.alloc (.cells #[.int .i64 M, .map (some (W0.heap.size + 1))] 103)).ownsMap Tryz.prog 3 (plainElem (H := Unit) Tryz.prog 3) (W0.heap.size + 1) 0 (mapOf []) := ownsMap_later hown1 (Below.heap_alloc _ _ _ hown1.lt)
  have HX1 : Hid (w1.cell? ⟨W0.heap.size + 1, 0, none⟩ = none) := map_no_cell hown1
  have hlt1 := hown1.lt
  obtain ⟨W1, hW1⟩ : ∃ W1, W1 = w1.alloc (.cells #[.int .i64 M, .map (some (W0.heap.size + 1))] 103) := ⟨_, rfl⟩
  have hs0 : W1.cell? ⟨w1.heap.size, 0, none⟩ = some (.int .i64 M) := by rw [hW1]; simp
  have hs1 : W1.cell? ⟨w1.heap.size, 1, none⟩ = some (.map (some (W0.heap.size + 1))) := by rw [hW1]; simp
  have HB2 : Hid (Below W0.heap.size W0 W1) := by rw [hW1]; exact below_chain hb1 (new_below _ _)
  rw [← hW1] at ho1
  have HO1 := Hid.mk' ho1
  have HS := Hid.mk' (And.intro hs0 hs1)
  have HW1 := Hid.mk' hW1
  have HLT := Hid.mk' hlt1
  clear hown1 hb1 ho1 hs0 hs1 hW1 hlt1
  go_upto_region 2 with fail
  rw [← HW1.out]
  obtain ⟨hs0, hs1⟩ := HS.out
  have hcall := HP.out W1 (W0.heap.size + 1) (below_chain HB0.out HB2.out) HO1.out
  unfold putV at hcall
  clear HP
  go_wp2_with fail
  refine hcall.mono ?_
  clear hcall hs0 hs1
  rintro e w2 ⟨rfl, l, nn, hpt⟩
  have hne : w1.heap.size ≠ W0.heap.size + 1 := by have := HLT.out; omega
  have hs0 := cell_beside hpt.grow HS.out.1 hne
  have hs1 := cell_beside hpt.grow HS.out.2 hne
  have hz1 := HB2.out.size
  have hlw : w.heap.size < W0.heap.size := by have := HSZ.out; omega
  have HB3 : Hid (Below W0.heap.size W0 w2) := HB2.out.grown hpt.grow HB2.out.size (fun k e => by cases e; omega)
  have hval : ∀ x, atL l x = f x := fun x => by have := hpt.val x; simpa [atL] using this
  have hlen : l.length ≤ 90000 := by have := hpt.len; simp at this; omega
  have hG := gcdL_list (D := M) hpt.rise
  have hfit : ∀ e ∈ l, (e.2.tdiv (gList M (l.map Prod.snd) : Int)).natAbs ≤ 1099511627776 := fun e he => by
    have h1 := HF.out e.1
    rw [← hval, atL_mem hpt.rise he] at h1
    rw [Int.natAbs_tdiv]
    exact Nat.le_trans (Nat.div_le_self _ _) (by omega)
  have ht := told_list (M : Int) (W0.heap.size + 1) nn l w2 hpt.own hpt.rise hpt.keys (by omega) (fun x => by rw [hval]; have := HF.out x; omega) (by omega) (by omega) _ hG (by rw [← Int.natCast_ediv]; exact Int.le_trans (Int.ofNat_le.2 (Nat.div_le_self _ _)) (by omega)) hfit
  have HLB : Hid (Rising l ∧ (∀ x, atL l x = f x) ∧ l.length ≤ 90000) := ⟨hpt.rise, hval, hlen⟩
  have HLW := Hid.mk' hlw
  clear hpt hval hlen hG hfit HF hz1 hlw HS HO1 HW1
  go_wp2_with fail
  refine ht.mono ?_
  clear ht hs0 hs1
  rintro e w3 ⟨v, rfl, hrow, hb3⟩
  obtain ⟨c0, c1, q0, q1⟩ := HRES.out w3 (below_chain HB3.out hb3)
  have HBW := Hid.mk' (below_chain HB0.out (below_chain HB3.out hb3))
  have HZ : Hid (w.heap.size < w2.heap.size) := by have h1 := HLW.out; have h2 := HB3.out.size; show _ < _; omega
  have HROW := Hid.mk' hrow
  obtain ⟨ad, n', c', rfl⟩ : ∃ ad n' c', v = .slice ad n' c' := by
    rcases hrow.2 with ⟨rfl, _⟩ | ⟨gg, cap', cur', rfl, _⟩
    · exact ⟨_, _, _, rfl⟩
    · exact ⟨_, _, _, rfl⟩
  clear hrow hb3 HRES
  go_wp2_with fail
  refine bodyPost_ret (v := .tuple #[.agg #[.int .i64 ((M : Int) / (gList M (l.map Prod.snd) : Int)), .slice ad n' c'], .nilIface]) (by simp [results, Tryz.results36, go_sem, c0, c1]) rfl ⟨_, .slice ad n' c', rfl, ⟨l, HLB.out.1, HLB.out.2.1, HLB.out.2.2, by simp, ?_⟩, ?_⟩
  · have h1 := ownsRow_setCell_below HROW.out (a := ⟨w.heap.size, 0, none⟩) HZ.out (.int .i64 ((M : Int) / (gList M (l.map Prod.snd) : Int)))
    have h2 := ownsRow_setCell_below h1 (a := ⟨w.heap.size, 1, none⟩) HZ.out (.slice ad n' c')
    exact row_base h2 (Nat.le_of_lt HZ.out)
  · exact (HBW.out.setCell (by simp) _).setCell (by simp) _

end Go.Proofs.YtofflboheiflaaaGreatDoor

/- dist.Entropy at any weights. -/
namespace Go.Proofs.YtofflboheiflaaaGreatDoor
open Go.RowKit Go.Maps

theorem new_one {w w1 : World} {x : Value} {t : TypeId} (hb : Below (w.alloc (.cells #[x] t)).heap.size (w.alloc (.cells #[x] t)) w1) : w1.cell? ⟨w.heap.size, 0, none⟩ = some x := by
  have c0 : (w.alloc (.cells #[x] t)).cell? ⟨w.heap.size, 0, none⟩ = some x := by rw [World.cell?_alloc_at _ _ _ _ rfl]; rfl
  exact (cell_past c0 hb).2

set_option maxRecDepth 100000 in
theorem Entropy_parts (den : Int) (mb B b o cap n : Nat) (z : Nat → Int) (w : World) (hown : w.ownsMap Tryz.prog 3 (plainElem (H := Unit) Tryz.prog 3) mb 0 (mapOf [])) (hB : w.cell? ⟨B, 0, none⟩ = some (.slice (some ⟨b, o, none⟩) n cap)) (h : RowAt w b o n z) (hz : ∀ i, i < n → 0 ≤ z i) (hs : sumN z n ≤ 4096) (hn : n ≤ 256) :
    Calls Tryz.prog 52 #[putV den mb, .pointer (some ⟨B, 0, none⟩)] w fun e w' => e = .returned (.tuple #[]) ∧ ∃ l nn, Puts w w' mb (fun x => sumN (entV z (sumN z n).toNat x) n) (2 * n) [] 0 l nn := by
  have hp := putEntropy_some den mb 0 b o cap n z [] w hown List.Pairwise.nil (fun e he => by cases he) (fun x => by simp [atL]) (by omega) h hz hs hn
  clear hown h hz hs
  unfold putV at hp ⊢
  go_enter Tryz.func52, Tryz.ntmps52
  go_wp2_with fail
  refine hp.mono ?_
  clear hp
  rintro e w1 ⟨rfl, l, nn, hpt⟩
  have HP := Hid.mk' hpt
  clear hpt
  go_wp2_with fail
  go_end0
  exact ⟨rfl, l, nn, HP.out⟩

theorem ent_bound {z : Nat → Int} {n N : Nat} (hz : ∀ i, i < n → 0 ≤ z i ∧ z i ≤ 4096) (hN : N ≤ 4096) (hn : n ≤ 256) (x : Int) : -1000000000 ≤ sumN (entV z N x) n ∧ sumN (entV z N x) n ≤ 1000000000 := by
  have h3 := sumN_bound (f := entV z N x) (B := 200000) (n := n) (fun i hi => entV_le x (hz i hi) hN)
  have : (n : Int) * 200000 ≤ 51200000 := by omega
  omega

set_option maxRecDepth 100000 in
set_option maxHeartbeats 1000000 in
theorem Entropy_ok (a : Nat → Addr) (b o cap n N : Nat) (z : Nat → Int) (w : World) (hE : Errs w a) (h : RowAt w b o n z) (h0 : weightsErr z n = 0) (hN : sumN z n = N) (hz : ∀ i, i < n → 0 ≤ z i) (hn : n ≤ 16) (hN1 : 1 ≤ N) (hN6 : N ≤ 4096) (h0n : 0 < n) :
    Calls Tryz.prog 22 #[.slice (some ⟨b, o, none⟩) n cap] w fun e w' => ∃ dn v, e = .returned (.tuple #[.agg #[.int .i64 dn, v], .nilIface]) ∧ LogBy w.heap.size N (fun x => sumN (entV z N x) n) w' dn v ∧ Below w.heap.size w w' := by
  have hzi : ∀ i, i < n → 0 ≤ z i ∧ z i ≤ 4096 := fun i hi => ⟨hz i hi, by have := sumN_ge hz hi; omega⟩
  have hle : ∀ k, k ≤ n → 0 ≤ sumN z k ∧ sumN z k ≤ 4096 := fun k hk => ⟨sumN_nonneg (fun i hi => hz i (by omega)), by have := sumN_mono hz hk; omega⟩
  obtain ⟨W0, hW0⟩ : ∃ W0, W0 = (w.alloc (.cells #[.slice (some ⟨b, o, none⟩) n cap] 22)).alloc (.cells #[.int .i64 0, .slice none 0 0] 45) := ⟨_, rfl⟩
  have hb0 : Below w.heap.size w W0 := by rw [hW0]; exact below_chain (new_below _ _) (new_below _ _)
  have hbox : W0.cell? ⟨w.heap.size, 0, none⟩ = some (.slice (some ⟨b, o, none⟩) n cap) := by rw [hW0]; exact new_one (new_below _ _)
  have hres : ∀ W, Below W0.heap.size W0 W → W.cell? ⟨w.heap.size + 1, 0, none⟩ = some (.int .i64 0) ∧ W.cell? ⟨w.heap.size + 1, 1, none⟩ = some (.slice none 0 0) ∧ W.frozen? ⟨w.heap.size + 1, 0, none⟩ = false ∧ W.frozen? ⟨w.heap.size + 1, 1, none⟩ = false := fun W hb => by
    rw [hW0] at hb
    have := res_past hb
    simpa using this
  have hv := Valid_weights a (.slice (some ⟨b, o, none⟩) n cap) n z W0 (hE.below hb0) (Or.inr ⟨b, o, cap, rfl, h0n, h.later hb0⟩) (by omega)
  rw [h0] at hv
  have ht := total_some b o cap n z W0 (h.later hb0) (fun k hk => by have := hle k hk; omega) (fun i hi => by have := hzi i hi; omega) (by omega)
  rw [hN] at ht
  have hso := sumOver_any 52 #[.pointer (some ⟨w.heap.size, 0, none⟩)] N (2 * n) (fun x => sumN (entV z N x) n) W0 (enters_of Tryz.func52 (by kernel_rfl) rfl) hN1 hN6 (by omega) (fun x => ent_bound hzi hN6 (by omega) x)
    (fun W mb hb ho => by
      have := Entropy_parts N mb w.heap.size b o cap n z W ho (cell_past hbox hb).2 ((h.later hb0).later hb) hz (by omega) (by omega)
      rw [hN, Int.toNat_natCast] at this
      exact this)
  have HB0 := Hid.mk' hb0
  have HRES := Hid.mk' hres
  have HW0 := Hid.mk' hW0
  have hlt : w.heap.size + 1 < W0.heap.size := by rw [hW0]; simp
  have HLT := Hid.mk' hlt
  clear hE h hb0 hres hW0 hzi hle hz hN h0 hlt
  go_enter Tryz.func22, Tryz.ntmps22
  go_upto_region 1 with fail
  rw [← HW0.out]
  go_wp2_with fail
  refine hv.mono ?_
  clear hv
  rintro e w1 ⟨rfl, hw1⟩
  rw [hw1]
  clear hw1
  rw [errV_zero]
  go_wp2_with (first
    | (go_at_call 27; refine ht.mono ?_; rintro e w2 ⟨rfl, hw2⟩; rw [hw2]; clear hw2)
    | (go_at_call 36; refine hso.mono ?_; rintro e w3 ⟨dn, v, rfl, hlb, hb3⟩; obtain ⟨c0, c1, q0, q1⟩ := HRES.out w3 hb3; have HBW := Hid.mk' (below_chain HB0.out hb3); have HLB := Hid.mk' hlb; obtain ⟨ad, n', c', rfl⟩ := hlb.form; clear hlb))
  refine bodyPost_ret (v := .tuple #[.agg #[.int .i64 dn, .slice ad n' c'], .nilIface]) (by simp [results, Tryz.results22, go_sem, c0, c1]) rfl ⟨_, .slice ad n' c', rfl, (HLB.out.set HLT.out _ _).lower (by have := HLT.out; omega), ?_⟩
  exact (HBW.out.setCell (by simp) _).setCell (by simp) _

set_option maxRecDepth 100000 in
set_option maxHeartbeats 1000000 in
theorem Entropy_bad (a : Nat → Addr) (v : Value) (n : Nat) (z : Nat → Int) (w : World) (hE : Errs w a) (h : NumsAt w v n z) (hn : n ≤ 400) (h0 : weightsErr z n ≠ 0) :
    Calls Tryz.prog 22 #[v] w fun e w' => e = .returned (.tuple #[.agg #[.int .i64 0, .slice none 0 0], errV a (weightsErr z n)]) ∧ Below w.heap.size w w' := by
  obtain ⟨ad, cap, rfl⟩ := h.form
  obtain ⟨W0, hW0⟩ : ∃ W0, W0 = (w.alloc (.cells #[.slice ad n cap] 22)).alloc (.cells #[.int .i64 0, .slice none 0 0] 45) := ⟨_, rfl⟩
  have hb0 : Below w.heap.size w W0 := by rw [hW0]; exact below_chain (new_below _ _) (new_below _ _)
  have hbox : W0.cell? ⟨w.heap.size, 0, none⟩ = some (.slice ad n cap) := by rw [hW0]; exact new_one (new_below _ _)
  have hres : W0.cell? ⟨w.heap.size + 1, 0, none⟩ = some (.int .i64 0) ∧ W0.cell? ⟨w.heap.size + 1, 1, none⟩ = some (.slice none 0 0) ∧ W0.frozen? ⟨w.heap.size + 1, 0, none⟩ = false ∧ W0.frozen? ⟨w.heap.size + 1, 1, none⟩ = false := by
    rw [hW0]
    simp
  have hv := Valid_weights a (.slice ad n cap) n z W0 (hE.below hb0) (h.later hb0) (by omega)
  rw [errV_pos a h0] at hv ⊢
  generalize a (weightsErr z n - 1) = ea at hv ⊢
  obtain ⟨c0, c1, q0, q1⟩ := hres
  have HB0 := Hid.mk' hb0
  have HW0 := Hid.mk' hW0
  clear hE h hb0 hW0 h0
  go_enter Tryz.func22, Tryz.ntmps22
  go_upto_region 1 with fail
  rw [← HW0.out]
  go_wp2_with (go_at_call 49; refine hv.mono ?_; rintro e w1 ⟨rfl, hw1⟩; rw [hw1]; clear hw1)
  refine bodyPost_ret (v := .tuple #[.agg #[.int .i64 0, .slice none 0 0], .iface 179 (.pointer (some ea))]) (by simp [results, Tryz.results22, go_sem, c0, c1]) rfl ⟨rfl, ?_⟩
  exact (HB0.out.setCell (by simp) _).setCell (by simp) _
end Go.Proofs.YtofflboheiflaaaGreatDoor

/- Two lists of weights: the program's and the document's errors. -/
namespace Go.Proofs.YtofflboheiflaaaGreatDoor
open Go.RowKit

def twoErr (p : Nat → Int) (n : Nat) (q : Nat → Int) (m : Nat) : Nat := if weightsErr p n ≠ 0 then weightsErr p n else if weightsErr q m ≠ 0 then weightsErr q m else if n ≠ m then 3 else 0

set_option maxRecDepth 100000 in
set_option maxHeartbeats 1000000 in
theorem TwoError_any (v u : Value) (n m : Nat) (p q : Nat → Int) (w : World) (h : NumsAt w v n p) (k : NumsAt w u m q) (hn : n ≤ 1000000) (hm : m ≤ 1000000) :
    Calls Tryz.prog 7 #[v, u] w fun e w' => e = .returned (.int .i64 (twoErr p n q m : Int)) ∧ w' = w := by
  have h1 := WeightsError_any v n p w h hn
  have h2 := WeightsError_any u m q w k hm
  obtain ⟨ad, cap, rfl⟩ := h.form
  obtain ⟨ad', cap', rfl⟩ := k.form
  clear h k
  have HT : Hid (twoErr p n q m = if weightsErr p n ≠ 0 then weightsErr p n else if weightsErr q m ≠ 0 then weightsErr q m else if n ≠ m then 3 else 0) := rfl
  generalize twoErr p n q m = r at HT ⊢
  generalize weightsErr p n = c at h1 HT
  generalize weightsErr q m = d at h2 HT
  by_cases hc : c = 0
  · subst hc
    by_cases hd : d = 0
    · subst hd
      by_cases hnm : n = m
      · subst hnm
        have HR : Hid (r = 0) := by show _ = _; rw [HT.out]; simp
        clear HT
        go_enter Tryz.func7, Tryz.ntmps7
        go_wp2_with fail
        refine h1.mono ?_
        rintro e w1 ⟨rfl, hw1⟩
        rw [hw1]
        clear hw1 h1
        go_wp2_with fail
        refine h2.mono ?_
        rintro e w1 ⟨rfl, hw1⟩
        rw [hw1]
        clear hw1 h2
        go_wp2_with fail
        go_ret
        exact ⟨by rw [HR.out]; rfl, rfl⟩
      · have HR : Hid (r = 3) := by show _ = _; rw [HT.out]; simp [hnm]
        have hb : ((n : Int) == (m : Int)) = false := by simp; omega
        clear HT
        go_enter Tryz.func7, Tryz.ntmps7
        go_wp2_with fail
        refine h1.mono ?_
        rintro e w1 ⟨rfl, hw1⟩
        rw [hw1]
        clear hw1 h1
        go_wp2_with fail
        refine h2.mono ?_
        rintro e w1 ⟨rfl, hw1⟩
        rw [hw1]
        clear hw1 h2
        go_wp2_with fail
        go_ret
        exact ⟨by rw [HR.out]; rfl, rfl⟩
    · have HR : Hid (r = d) := by show _ = _; rw [HT.out]; simp [hd]
      have hb : ((d : Int) == 0) = false := by simpa using hd
      clear HT
      go_enter Tryz.func7, Tryz.ntmps7
      go_wp2_with fail
      refine h1.mono ?_
      rintro e w1 ⟨rfl, hw1⟩
      rw [hw1]
      clear hw1 h1
      go_wp2_with fail
      refine h2.mono ?_
      rintro e w1 ⟨rfl, hw1⟩
      rw [hw1]
      clear hw1 h2
      go_wp2_with fail
      go_ret
      exact ⟨by rw [HR.out]; rfl, rfl⟩
  · have HR : Hid (r = c) := by show _ = _; rw [HT.out]; simp [hc]
    have hb : ((c : Int) == 0) = false := by simpa using hc
    clear HT
    go_enter Tryz.func7, Tryz.ntmps7
    go_wp2_with (go_at_call 25; refine h1.mono ?_; rintro e w1 ⟨rfl, hw1⟩; rw [hw1]; clear hw1)
    go_ret
    exact ⟨by rw [HR.out]; rfl, rfl⟩

set_option maxRecDepth 100000 in
set_option maxHeartbeats 1000000 in
theorem checkPair_any (a : Nat → Addr) (v u : Value) (n m : Nat) (p q : Nat → Int) (w : World) (hE : Errs w a) (h : NumsAt w v n p) (k : NumsAt w u m q) (hn : n ≤ 1000000) (hm : m ≤ 1000000) :
    Calls Tryz.prog 26 #[v, u] w fun e w' => e = .returned (errV a (twoErr p n q m)) ∧ w' = w := by
  have h1 := Valid_weights a v n p w hE h hn
  have h2 := Valid_weights a u m q w hE k hm
  obtain ⟨ad, cap, rfl⟩ := h.form
  obtain ⟨ad', cap', rfl⟩ := k.form
  have e2 := hE.c2
  clear h k hE
  have HT : Hid (twoErr p n q m = if weightsErr p n ≠ 0 then weightsErr p n else if weightsErr q m ≠ 0 then weightsErr q m else if n ≠ m then 3 else 0) := rfl
  generalize twoErr p n q m = r at HT ⊢
  generalize weightsErr p n = c at h1 HT
  generalize weightsErr q m = d at h2 HT
  by_cases hc : c = 0
  · subst hc
    rw [errV_zero] at h1
    by_cases hd : d = 0
    · subst hd
      rw [errV_zero] at h2
      by_cases hnm : n = m
      · subst hnm
        have HR : Hid (r = 0) := by show _ = _; rw [HT.out]; simp
        clear HT
        go_enter Tryz.func26, Tryz.ntmps26
        go_wp2_with fail
        refine h1.mono ?_
        rintro e w1 ⟨rfl, hw1⟩
        rw [hw1]
        clear hw1 h1
        go_wp2_with fail
        refine h2.mono ?_
        rintro e w1 ⟨rfl, hw1⟩
        rw [hw1]
        clear hw1 h2
        go_wp2_with fail
        go_ret
        exact ⟨by rw [HR.out]; rfl, rfl⟩
      · have HR : Hid (r = 3) := by show _ = _; rw [HT.out]; simp [hnm]
        have hb : ((n : Int) == (m : Int)) = false := by simp; omega
        clear HT
        go_enter Tryz.func26, Tryz.ntmps26
        go_wp2_with fail
        refine h1.mono ?_
        rintro e w1 ⟨rfl, hw1⟩
        rw [hw1]
        clear hw1 h1
        go_wp2_with fail
        refine h2.mono ?_
        rintro e w1 ⟨rfl, hw1⟩
        rw [hw1]
        clear hw1 h2
        go_wp2_with fail
        go_ret
        exact ⟨by rw [HR.out]; rfl, rfl⟩
    · have HR : Hid (r = d) := by show _ = _; rw [HT.out]; simp [hd]
      have HD := Hid.mk' (errV_pos a hd)
      rw [HD.out] at h2
      clear HT
      go_enter Tryz.func26, Tryz.ntmps26
      go_wp2_with fail
      refine h1.mono ?_
      rintro e w1 ⟨rfl, hw1⟩
      rw [hw1]
      clear hw1 h1
      go_wp2_with fail
      refine h2.mono ?_
      rintro e w1 ⟨rfl, hw1⟩
      rw [hw1]
      clear hw1 h2
      go_wp2_with fail
      go_ret
      exact ⟨by rw [HR.out, HD.out]; rfl, rfl⟩
  · have HR : Hid (r = c) := by show _ = _; rw [HT.out]; simp [hc]
    have HD := Hid.mk' (errV_pos a hc)
    rw [HD.out] at h1
    clear HT
    go_enter Tryz.func26, Tryz.ntmps26
    go_wp2_with (go_at_call 49; refine h1.mono ?_; rintro e w1 ⟨rfl, hw1⟩; rw [hw1]; clear hw1)
    go_ret
    exact ⟨by rw [HR.out, HD.out]; rfl, rfl⟩
theorem twoErr_ok {p q : Nat → Int} {n m : Nat} (h : twoErr p n q m = 0) : n = m ∧ n ≤ 16 ∧ OkW p n ∧ OkW q m := by
  unfold twoErr at h
  by_cases h1 : weightsErr p n = 0
  · by_cases h2 : weightsErr q m = 0
    · by_cases h3 : n = m
      · refine ⟨h3, ?_⟩
        unfold weightsErr at h1 h2
        by_cases h16 : 16 < n
        · rw [if_pos h16] at h1; cases h1
        · rw [if_neg h16] at h1
          rw [← h3, if_neg h16] at h2
          rw [← h3]
          exact ⟨by omega, listErr_ok h1, listErr_ok h2⟩
      · simp [h1, h2, h3] at h
    · simp [h1, h2] at h
  · simp [h1] at h
end Go.Proofs.YtofflboheiflaaaGreatDoor

/- whole.Lowest at any fraction. -/
namespace Go.Proofs.YtofflboheiflaaaGreatDoor
open Go.RowKit

theorem quo_nat30 {a b : Nat} (h : a ≤ 1073741824) : wrap64 ((a : Int) / (b : Int)) = ((a / b : Nat) : Int) := by
  have h0 : (a : Int) / (b : Int) = ((a / b : Nat) : Int) := by simp
  have h1 : a / b ≤ a := Nat.div_le_self _ _
  rw [h0]
  generalize a / b = q at h1
  rw [w64 _ (by omega)]

set_option maxRecDepth 10000 in
set_option maxHeartbeats 1000000 in
theorem lowest_any (n : Int) (d : Nat) (w : World) (h1 : -1073741824 ≤ n) (h2 : n ≤ 1073741824) (hd0 : 1 ≤ d) (hd1 : d ≤ 1073741824) (g : Nat) (hg : g = Nat.gcd n.natAbs d) : Calls Tryz.prog 29 #[.int .i64 n, .int .i64 d] w fun e w' => e = .returned (.agg #[.int .i64 (n.tdiv (g : Int)), .int .i64 ((d / g : Nat) : Int)]) ∧ Below w.heap.size w w' := by
  have hB0 : Below w.heap.size w (w.alloc (.cells #[.int .i64 0, .int .i64 0] 26)) := (Below.refl _ _).alloc (Nat.le_refl _) _
  have hgc := GCD_any n d (w.alloc (.cells #[.int .i64 0, .int .i64 0] 26)) (by omega) (by omega) (by omega) (by omega)
  have hgi : Int.gcd n (d : Int) = g := by rw [hg]; simp [Int.gcd]
  rw [hgi] at hgc
  have hgp : 0 < g := by rw [hg]; exact Nat.gcd_pos_of_pos_right _ hd0
  have hgz : ¬ g = 0 := by omega
  have hgl : g ≤ d := by rw [hg]; exact Nat.gcd_le_right _ (by omega)
  have HB := Hid.mk' hB0
  clear hB0 hgi hg
  go_enter Tryz.func29, Tryz.ntmps29
  go_wp2_with fail
  refine hgc.mono ?_
  clear hgc
  rintro e w1 ⟨rfl, m, rfl⟩
  go_wp2_with fail
  go_region
  go_wp2_with fail
  refine bodyPost_ret (v := .agg #[.int .i64 (n.tdiv (g : Int)), .int .i64 (wrap64 ((d : Int) / (g : Int)))]) (by simp [results, Tryz.results29, go_sem]) rfl ⟨by rw [quo_nat30 hd1], ?_⟩
  exact ((below_drewN HB.out _).setCell (by simp) _).setCell (by simp) _
end Go.Proofs.YtofflboheiflaaaGreatDoor

/- dist.Variation. -/
namespace Go.Proofs.YtofflboheiflaaaGreatDoor
open Go.RowKit

/-- How far two are at a place, over both sums. -/
def apV (p q : Nat → Int) (P Q : Nat) (i : Nat) : Int := ((p i * Q - q i * P).natAbs : Int)
theorem mul_le6 {x : Int} {Q : Nat} (hx : 0 ≤ x ∧ x ≤ 4096) (hQ : Q ≤ 4096) : 0 ≤ x * (Q : Int) ∧ x * (Q : Int) ≤ 16777216 := by
  obtain ⟨y, rfl⟩ := Int.eq_ofNat_of_zero_le hx.1
  have h1 : y * Q ≤ 4096 * 4096 := Nat.mul_le_mul (by omega) hQ
  have h2 : (y : Int) * (Q : Int) = ((y * Q : Nat) : Int) := by simp
  rw [h2]
  generalize y * Q = z at h1
  omega
theorem apV_le {p q : Nat → Int} {P Q i : Nat} (hp : 0 ≤ p i ∧ p i ≤ 4096) (hq : 0 ≤ q i ∧ q i ≤ 4096) (hP : P ≤ 4096) (hQ : Q ≤ 4096) : 0 ≤ apV p q P Q i ∧ apV p q P Q i ≤ 16777216 := by
  unfold apV
  have h1 := mul_le6 hp hQ
  have h2 := mul_le6 hq hP
  generalize p i * (Q : Int) = a at *
  generalize q i * (P : Int) = b at *
  omega

set_option maxRecDepth 100000 in
set_option maxHeartbeats 4000000 in
theorem Variation_right (a : Nat → Addr) (b o cap b' o' cap' n P Q g : Nat) (p q : Nat → Int) (w : World) (hE : Errs w a) (h : RowAt w b o n p) (k : RowAt w b' o' n q) (h0 : twoErr p n q n = 0) (hP : sumN p n = P) (hQ : sumN q n = Q) (hg : g = Nat.gcd (sumN (apV p q P Q) n).natAbs (2 * P * Q)) :
    Calls Tryz.prog 8 #[.slice (some ⟨b, o, none⟩) n cap, .slice (some ⟨b', o', none⟩) n cap'] w fun e w' => e = .returned (.tuple #[.agg #[.int .i64 ((sumN (apV p q P Q) n).tdiv (g : Int)), .int .i64 ((2 * P * Q / g : Nat) : Int)], .nilIface]) ∧ Below w.heap.size w w' := by
  obtain ⟨_, hn, hok1, hok2⟩ := twoErr_ok h0
  have h0n := hok1.posN
  have hP1 : 1 ≤ P ∧ P ≤ 4096 := by have := hok1.pos; have := hok1.le; omega
  have hQ1 : 1 ≤ Q ∧ Q ≤ 4096 := by have := hok2.pos; have := hok2.le; omega
  obtain ⟨D, hD⟩ : ∃ D, D = 2 * P * Q := ⟨_, rfl⟩
  have hD1 : 1 ≤ D ∧ D ≤ 33554432 := by
    rw [hD]
    refine ⟨Nat.mul_pos (by omega) (by omega), ?_⟩
    have : 2 * P * Q ≤ 8192 * 4096 := Nat.mul_le_mul (by omega) hQ1.2
    omega
  have hDw : wrap64 (2 * (P : Int) * (Q : Int)) = (D : Int) := by
    rw [show 2 * (P : Int) * (Q : Int) = ((2 * P * Q : Nat) : Int) by simp, ← hD, w64 _ (by omega)]
  rw [← hD] at hg ⊢
  obtain ⟨W0, hW0⟩ : ∃ W0, W0 = w.alloc (.cells #[.int .i64 0, .int .i64 0] 26) := ⟨_, rfl⟩
  have hb0 : Below w.heap.size w W0 := by rw [hW0]; exact new_below _ _
  have hres : ∀ W, Below W0.heap.size W0 W → W.cell? ⟨w.heap.size, 0, none⟩ = some (.int .i64 0) ∧ W.cell? ⟨w.heap.size, 1, none⟩ = some (.int .i64 0) ∧ W.frozen? ⟨w.heap.size, 0, none⟩ = false ∧ W.frozen? ⟨w.heap.size, 1, none⟩ = false := fun W hb => by
    rw [hW0] at hb
    exact res_past hb
  have hcp := checkPair_any a (.slice (some ⟨b, o, none⟩) n cap) (.slice (some ⟨b', o', none⟩) n cap') n n p q W0 (hE.below hb0) (Or.inr ⟨b, o, cap, rfl, h0n, h.later hb0⟩) (Or.inr ⟨b', o', cap', rfl, h0n, k.later hb0⟩) (by omega) (by omega)
  rw [h0, errV_zero] at hcp
  have HR : Hid (RowAt W0 b o n p ∧ RowAt W0 b' o' n q) := ⟨h.later hb0, k.later hb0⟩
  have htp := total_some b o cap n p W0 HR.out.1 (fun k hk => by have := hok1.part hk; omega) (fun i hi => by have := hok1.lt hi; omega) (by omega)
  have htq := total_some b' o' cap' n q W0 HR.out.2 (fun k hk => by have := hok2.part hk; omega) (fun i hi => by have := hok2.lt hi; omega) (by omega)
  rw [hP] at htp
  rw [hQ] at htq
  have HPI : Hid (∀ i, i < n → 0 ≤ p i ∧ p i ≤ 4096) := fun i hi => hok1.lt hi
  have HQI : Hid (∀ i, i < n → 0 ≤ q i ∧ q i ≤ 4096) := fun i hi => hok2.lt hi
  have HSB : Hid (∀ k, k ≤ n → 0 ≤ sumN (apV p q P Q) k ∧ sumN (apV p q P Q) k ≤ 268435456) := fun k hk => by
    have h1 := sumN_nonneg (z := apV p q P Q) (n := k) (fun i hi => (apV_le (HPI.out i (by omega)) (HQI.out i (by omega)) hP1.2 hQ1.2).1)
    have h2 := sumN_bound (f := apV p q P Q) (B := 16777216) (n := k) (fun i hi => by have := apV_le (HPI.out i (by omega)) (HQI.out i (by omega)) hP1.2 hQ1.2; omega)
    have : (k : Int) * 16777216 ≤ 268435456 := by omega
    omega
  have hDu : D ≤ 1073741824 := Nat.le_trans hD1.2 (by decide)
  have hSn := HSB.out n (Nat.le_refl _)
  have HLO : Hid (∀ W : World, Calls Tryz.prog 29 #[.int .i64 (sumN (apV p q P Q) n), .int .i64 D] W fun e w' => e = .returned (.agg #[.int .i64 ((sumN (apV p q P Q) n).tdiv (g : Int)), .int .i64 ((D / g : Nat) : Int)]) ∧ Below W.heap.size W w') := fun W => lowest_any _ D W (Int.le_trans (by decide) hSn.1) (Int.le_trans hSn.2 (by decide)) hD1.1 hDu g hg
  clear hSn hDu
  have HB0 := Hid.mk' hb0
  have HRES := Hid.mk' hres
  have HW0 := Hid.mk' hW0
  have HDW := Hid.mk' hDw
  clear hE h k hb0 hres hW0 hok1 hok2 h0 hP hQ hD hg hDw
  go_enter Tryz.func8, Tryz.ntmps8
  go_upto_region 1 with fail
  rw [← HW0.out]
  go_wp2_with (first
    | (go_at_call 26; refine hcp.mono ?_; rintro e w1 ⟨rfl, hw1⟩; rw [hw1]; clear hw1)
    | (go_at_call_of 27 b; refine htp.mono ?_; rintro e w1 ⟨rfl, hw1⟩; rw [hw1]; clear hw1)
    | (go_at_call_of 27 b'; refine htq.mono ?_; rintro e w1 ⟨rfl, hw1⟩; rw [hw1]; clear hw1))
  clear hcp htp htq
  go_loopw [9, 10, 24] (fun s _ i wr => ∃ k : Nat, k ≤ n ∧ s = .int .i64 (sumN (apV p q P Q) k) ∧ i = .int .i64 k ∧ Hid (Below W0.heap.size W0 wr)) (fun _ _ i _ => n - (intOf i).toNat)
  case atStart => exact ⟨0, Nat.zero_le _, rfl, rfl, Hid.mk' (Below.refl _ _)⟩
  case round =>
    obtain ⟨k, hk, rfl, rfl, HW⟩ := hrel
    rcases Nat.lt_or_ge k n with h1 | h1
    · have hcP := (HR.out.1.later HW.out) k h1
      have hcQ := (HR.out.2.later HW.out) k h1
      have hkn : (k : Int) < (n : Int) := by omega
      have hk0 : (0 : Int) ≤ (k : Int) := by omega
      have HV : Hid (sumN (apV p q P Q) (k + 1) = sumN (apV p q P Q) k + ((p k * Q - q k * P).natAbs : Int)) := rfl
      have hs1 := HSB.out k hk
      have hx := mul_le6 (HPI.out k h1) hQ1.2
      have hy := mul_le6 (HQI.out k h1) hP1.2
      have hxw := w64 (p k * (Q : Int)) (by omega)
      have hyw := w64 (q k * (P : Int)) (by omega)
      generalize p k = x at *
      generalize q k = y at *
      obtain ⟨A, hA⟩ : ∃ A, A = x * (Q : Int) := ⟨_, rfl⟩
      obtain ⟨B, hB⟩ : ∃ B, B = y * (P : Int) := ⟨_, rfl⟩
      rw [← hA] at hx hxw HV
      rw [← hB] at hy hyw HV
      have hxm : wrap64 (x * (Q : Int)) = A := by rw [← hA]; exact hxw
      have hym : wrap64 (y * (P : Int)) = B := by rw [← hB]; exact hyw
      generalize sumN (apV p q P Q) k = S at *
      have hsz := fun W => size_any (A - B) W (by omega) (by omega)
      have hdf : wrap64 (A - B) = A - B := w64 _ (by omega)
      clear hA hB hxw hyw
      go_wp2_with fail
      go_quiet ((first | (go_at_call 28; exact (hsz _).mono fun _ _ h => ⟨h.1, _, h.2⟩)))
      go_wp2_with fail
      exact ⟨⟨k + 1, by omega, by rw [HV.out], by go_num, below_drewN HW.out _⟩, by simp [intOf]; omega⟩
    · obtain rfl : k = n := by omega
      obtain ⟨c0, c1, q0, q1⟩ := HRES.out wr HW.out
      have hlo := HLO.out wr
      have HBW := Hid.mk' (below_chain HB0.out HW.out)
      clear HLO HRES
      go_wp2_with fail
      rw [HDW.out]
      refine hlo.mono ?_
      clear hlo
      rintro e w2 ⟨rfl, hb2⟩
      have d0 := (cell_past c0 hb2).2
      have d1 := (cell_past c1 hb2).2
      have e0 := (frozen_past c0 q0 hb2).2
      have e1 := (frozen_past c1 q1 hb2).2
      have HB2 := Hid.mk' (below_chain HBW.out hb2)
      clear c0 c1 q0 q1 hb2
      go_wp2_with fail
      refine bodyPost_ret (v := .tuple #[.agg #[.int .i64 ((sumN (apV p q P Q) k).tdiv (g : Int)), .int .i64 ((D / g : Nat) : Int)], .nilIface]) (by simp [results, Tryz.results8, go_sem, d0, d1]) rfl ⟨rfl, ?_⟩
      exact (HB2.out.setCell (Nat.le_refl _) _).setCell (Nat.le_refl _) _

set_option maxRecDepth 100000 in
set_option maxHeartbeats 1000000 in
theorem Variation_bad (a : Nat → Addr) (v u : Value) (n m : Nat) (p q : Nat → Int) (w : World) (hE : Errs w a) (h : NumsAt w v n p) (k : NumsAt w u m q) (hn : n ≤ 400) (hm : m ≤ 400) (h0 : twoErr p n q m ≠ 0) :
    Calls Tryz.prog 8 #[v, u] w fun e w' => e = .returned (.tuple #[.agg #[.int .i64 0, .int .i64 0], errV a (twoErr p n q m)]) ∧ Below w.heap.size w w' := by
  obtain ⟨ad, cap, rfl⟩ := h.form
  obtain ⟨ad', cap', rfl⟩ := k.form
  obtain ⟨W0, hW0⟩ : ∃ W0, W0 = w.alloc (.cells #[.int .i64 0, .int .i64 0] 26) := ⟨_, rfl⟩
  have hb0 : Below w.heap.size w W0 := by rw [hW0]; exact new_below _ _
  have hres : W0.cell? ⟨w.heap.size, 0, none⟩ = some (.int .i64 0) ∧ W0.cell? ⟨w.heap.size, 1, none⟩ = some (.int .i64 0) ∧ W0.frozen? ⟨w.heap.size, 0, none⟩ = false ∧ W0.frozen? ⟨w.heap.size, 1, none⟩ = false := by
    rw [hW0]
    exact res_past (Below.refl _ _)
  have hcp := checkPair_any a (.slice ad n cap) (.slice ad' m cap') n m p q W0 (hE.below hb0) (h.later hb0) (k.later hb0) (by omega) (by omega)
  rw [errV_pos a h0] at hcp ⊢
  generalize a (twoErr p n q m - 1) = ea at hcp ⊢
  obtain ⟨c0, c1, q0, q1⟩ := hres
  have HB0 := Hid.mk' hb0
  have HW0 := Hid.mk' hW0
  clear hE h k hb0 hW0 h0
  go_enter Tryz.func8, Tryz.ntmps8
  go_upto_region 1 with fail
  rw [← HW0.out]
  go_wp2_with (go_at_call 26; refine hcp.mono ?_; rintro e w1 ⟨rfl, hw1⟩; rw [hw1]; clear hw1)
  refine bodyPost_ret (v := .tuple #[.agg #[.int .i64 0, .int .i64 0], .iface 179 (.pointer (some ea))]) (by simp [results, Tryz.results8, go_sem, c0, c1]) rfl ⟨rfl, ?_⟩
  exact (HB0.out.setCell (Nat.le_refl _) _).setCell (Nat.le_refl _) _
end Go.Proofs.YtofflboheiflaaaGreatDoor

/- The document's differences. -/
namespace Go.Proofs.YtofflboheiflaaaGreatDoor
open Go.RowKit

set_option maxRecDepth 10000 in
set_option maxHeartbeats 4000000 in
/-- Minus: the difference, in its lowest terms. -/
theorem Minus_ratio (v1 v2 : Value) (n1 n2 : Int) (d1 d2 k : Nat) (w : World) (h1 : RatioAt w v1 n1 d1) (h2 : RatioAt w v2 n2 d2) (hd1 : 0 < d1) (hd2 : 0 < d2) (hn1 : n1.natAbs < 1000000 ^ k) (hn2 : n2.natAbs < 1000000 ^ k) (hk1 : d1 < 1000000 ^ k) (hk2 : d2 < 1000000 ^ k) (hk : k + k + 1 + 1 ≤ 1000000) :
    Calls Tryz.prog 33 #[v1, v2] w fun e w' => ∃ r, e = .returned r ∧ RatioAt w' r ((n1 * d2 + -n2 * d1).tdiv ((Nat.gcd (n1 * d2 + -n2 * d1).natAbs (d1 * d2) : Nat) : Int)) (d1 * d2 / Nat.gcd (n1 * d2 + -n2 * d1).natAbs (d1 * d2)) ∧ Below w.heap.size w w' := by
  obtain ⟨u1, q1, rfl, hu1, hq1⟩ := h1
  obtain ⟨u2, q2, rfl, hu2, hq2⟩ := h2
  obtain ⟨ad1, l1, cap1, rfl, _⟩ := hu1.len
  obtain ⟨bd1, m1, bap1, rfl, _⟩ := hq1.len
  obtain ⟨ad2, l2, cap2, rfl, _⟩ := hu2.len
  obtain ⟨bd2, m2, bap2, rfl, _⟩ := hq2.len
  obtain ⟨s1, hs1⟩ : ∃ s, decide (n1 < 0) = s := ⟨_, rfl⟩
  obtain ⟨s2, hs2⟩ : ∃ s, decide (n2 < 0) = s := ⟨_, rfl⟩
  rw [hs1, hs2]
  have hB0 : Below w.heap.size w (((w.alloc (.cells #[.bool s1, .slice ad1 l1 cap1, .slice bd1 m1 bap1] 39)).alloc (.cells #[.bool s2, .slice ad2 l2 cap2, .slice bd2 m2 bap2] 39)).alloc (.cells #[.bool false, .slice none 0 0, .slice none 0 0] 39)) := (((Below.refl _ _).alloc (Nat.le_refl _) _).alloc (by simp) _).alloc (by simp; omega) _
  have hN := noInts_third3 w (.cells #[.bool s1, .slice ad1 l1 cap1, .slice bd1 m1 bap1] 39) (.cells #[.bool s2, .slice ad2 l2 cap2, .slice bd2 m2 bap2] 39) 39
  have hNP := fun (w1 : World) => nine_past (w := w) (w1 := w1) (x0 := .bool s1) (x1 := .slice ad1 l1 cap1) (x2 := .slice bd1 m1 bap1) (y0 := .bool s2) (y1 := .slice ad2 l2 cap2) (y2 := .slice bd2 m2 bap2) (r0 := .bool false) (r1 := .slice none 0 0) (r2 := .slice none 0 0) (t := 39)
  have hz0 : w.heap.size + 1 + 1 + 1 = (((w.alloc (.cells #[.bool s1, .slice ad1 l1 cap1, .slice bd1 m1 bap1] 39)).alloc (.cells #[.bool s2, .slice ad2 l2 cap2, .slice bd2 m2 bap2] 39)).alloc (.cells #[.bool false, .slice none 0 0, .slice none 0 0] 39)).heap.size := by simp
  generalize hW : (((w.alloc (.cells #[.bool s1, .slice ad1 l1 cap1, .slice bd1 m1 bap1] 39)).alloc (.cells #[.bool s2, .slice ad2 l2 cap2, .slice bd2 m2 bap2] 39)).alloc (.cells #[.bool false, .slice none 0 0, .slice none 0 0] 39)) = W0 at hB0 hN hNP hz0
  have hKS : ∀ W, Below (w.heap.size + 1 + 1) W0 W → (W.cell? ⟨w.heap.size, 0, none⟩ = some (.bool s1) ∧ W.cell? ⟨w.heap.size, 1, none⟩ = some (.slice ad1 l1 cap1) ∧ W.cell? ⟨w.heap.size, 2, none⟩ = some (.slice bd1 m1 bap1)) ∧ (W.cell? ⟨w.heap.size + 1, 0, none⟩ = some (.bool s2) ∧ W.cell? ⟨w.heap.size + 1, 1, none⟩ = some (.slice ad2 l2 cap2) ∧ W.cell? ⟨w.heap.size + 1, 2, none⟩ = some (.slice bd2 m2 bap2)) := fun W hb => by
    obtain ⟨⟨a0, a1, a2⟩, ⟨b0, b1, b2⟩, _⟩ := hNP W0 (Below.refl _ _)
    have ha : ∀ j v, W0.cell? ⟨w.heap.size, j, none⟩ = some v → W.cell? ⟨w.heap.size, j, none⟩ = some v := fun j v h => by rw [hb.cell (p := ⟨w.heap.size, j, none⟩) (by show w.heap.size < _; omega)]; exact h
    have hb' : ∀ j v, W0.cell? ⟨w.heap.size + 1, j, none⟩ = some v → W.cell? ⟨w.heap.size + 1, j, none⟩ = some v := fun j v h => by rw [hb.cell (p := ⟨w.heap.size + 1, j, none⟩) (by show w.heap.size + 1 < _; omega)]; exact h
    exact ⟨⟨ha 0 _ a0, ha 1 _ a1, ha 2 _ a2⟩, ⟨hb' 0 _ b0, hb' 1 _ b1, hb' 2 _ b2⟩⟩
  have HS2 := Hid.mk' (show SignedAt W0.drew (.agg #[.bool s2, .slice ad2 l2 cap2]) n2 from ⟨_, by rw [hs2], (hu2.later hB0).later ((Below.refl _ _).drew)⟩)
  have HD2 := Hid.mk' ((hq2.later hB0).later ((Below.refl _ _).drew))
  have HR1 := Hid.mk' (show RatioAt W0.drew (.agg #[.bool s1, .slice ad1 l1 cap1, .slice bd1 m1 bap1]) n1 d1 from ⟨_, _, by rw [hs1], (hu1.later hB0).later ((Below.refl _ _).drew), (hq1.later hB0).later ((Below.refl _ _).drew)⟩)
  have hback := SignedBack_any _ n2 W0.drew HS2.out
  have HBACK := Hid.mk' hback
  have HKS := Hid.mk' hKS
  have HW := Hid.mk' hW
  have HNP := Hid.mk' hNP
  have HN := Hid.mk' hN
  have HB := Hid.mk' hB0
  have HBD : Hid (n1.natAbs < 1000000 ^ k ∧ (-n2).natAbs < 1000000 ^ k ∧ d1 < 1000000 ^ k ∧ d2 < 1000000 ^ k) := ⟨hn1, by rw [Int.natAbs_neg]; exact hn2, hk1, hk2⟩
  have hcur0 : Below (w.heap.size + 1 + 1) W0 W0 := Below.refl _ _
  have hcur : Below (w.heap.size + 1 + 1) W0 W0.drew := (Below.refl _ _).drew
  obtain ⟨zz, hzz⟩ : ∃ zz, zz = n1 * (d2 : Int) + -n2 * (d1 : Int) := ⟨_, rfl⟩
  rw [← hzz]
  have HZZ := Hid.mk' hzz
  clear hs1 hs2 hu1 hu2 hq1 hq2 hB0 hN hNP hW hKS hback hn1 hn2 hk1 hk2 hzz
  go_enter Tryz.func33, Tryz.ntmps33
  go_wp2_with fail
  rw [HW.out]
  go_region_held3 (fun W => (W.cell? ⟨w.heap.size, 0, none⟩ = some (.bool s1) ∧ W.cell? ⟨w.heap.size, 1, none⟩ = some (.slice ad1 l1 cap1) ∧ W.cell? ⟨w.heap.size, 2, none⟩ = some (.slice bd1 m1 bap1)) ∧ (W.cell? ⟨w.heap.size + 1, 0, none⟩ = some (.bool s2) ∧ W.cell? ⟨w.heap.size + 1, 1, none⟩ = some (.slice ad2 l2 cap2) ∧ W.cell? ⟨w.heap.size + 1, 2, none⟩ = some (.slice bd2 m2 bap2)))
    (first | exact HKS.out _ hcur0 | exact HKS.out _ hcur | exact HKS.out _ hc1 | exact HKS.out _ hc3 | exact HKS.out _ (below_set3 hc3 (Nat.le_refl _) _ _ _))
    (first
      | (go_at_call 42; refine HBACK.out.mono ?_; rintro e w1 ⟨sv, rfl, ⟨us, rfl, hus⟩, hb1⟩; obtain ⟨sg, hsg⟩ : ∃ sg, decide (-n2 < 0) = sg := ⟨_, rfl⟩; rw [hsg]; obtain ⟨ad3, l3, cap3, rfl, _⟩ := hus.len; have hbw1 := below_chain ((Below.refl _ _).drew) hb1; have hc1 : Below (w.heap.size + 1 + 1) W0 w1 := hbw1.mono (by omega); have HRA : Hid (RatioAt w1 (.agg #[.bool sg, .slice ad3 l3 cap3, .slice bd2 m2 bap2]) (-n2) d2) := ⟨_, _, by rw [hsg], hus, HD2.out.later hb1⟩; have HRB := Hid.mk' (HR1.out.later hb1); have HBW1 := Hid.mk' hbw1; clear hus hb1 hbw1 hsg)
      | (go_at_call 34; refine (Plus_ratio _ _ n1 (-n2) d1 d2 k w1 HRB.out HRA.out hd1 hd2 HBD.out.1 HBD.out.2.1 HBD.out.2.2.1 HBD.out.2.2.2 hk).mono ?_; rintro e w3 ⟨rv, rfl, hrv, hb3⟩; rw [← HZZ.out] at hrv; obtain ⟨ur, qr, rfl, hur, hqr⟩ := hrv; obtain ⟨ad5, l5, cap5, rfl, _⟩ := hur.len; obtain ⟨ad6, l6, cap6, rfl, _⟩ := hqr.len; have hbw3 := below_chain HBW1.out hb3; have hc3 : Below (w.heap.size + 1 + 1) W0 w3 := hbw3.mono (by omega); obtain ⟨_, _, ⟨c0, c1, c2⟩, f0, f1, f2⟩ := HNP.out w3 hbw3; have HUR := Hid.mk' hur; have HQR := Hid.mk' hqr; have HBW3 := Hid.mk' hbw3; clear hur hqr hb3 hbw3))
  go_wp2_with fail
  refine bodyPost_ret (v := .agg #[.bool (decide (zz.tdiv ((Nat.gcd zz.natAbs (d1 * d2) : Nat) : Int) < 0)), .slice ad5 l5 cap5, .slice ad6 l6 cap6]) (by simp [results, Tryz.results33, go_sem, c0, c1, c2]) rfl ⟨_, rfl, ⟨_, _, rfl, HUR.out.set3 (HN.out.later (by omega) HBW3.out) c0 c1, HQR.out.set3 (HN.out.later (by omega) HBW3.out) c0 c1⟩, below_set3 (below_chain HB.out HBW3.out) (by omega) _ _ _⟩

/-- What is less than nothing by a part of M. -/
theorem low_minus {M : Nat} (hM : 0 < M) (z : Int) : (0 * (lowD M z : Int) + -lowN M z * (1 : Nat)).tdiv ((Nat.gcd (0 * (lowD M z : Int) + -lowN M z * (1 : Nat)).natAbs (1 * lowD M z) : Nat) : Int) = lowN M (-z) ∧ 1 * lowD M z / Nat.gcd (0 * (lowD M z : Int) + -lowN M z * (1 : Nat)).natAbs (1 * lowD M z) = lowD M (-z) := by
  refine low_same hM (by have := lowD_pos hM z; omega) ?_
  have h1 := low_cross hM z
  rw [Nat.one_mul]
  generalize lowN M z = a at *
  generalize (lowD M z : Int) = c at *
  simp only [Int.zero_mul, Int.zero_add, Int.natCast_one, Int.mul_one]
  rw [Int.neg_mul, h1, Int.neg_mul]
/-- A part of a part: n of M times x of n is x of M. -/
theorem low_times {M n : Nat} (hM : 0 < M) (hn : 0 < n) (x : Int) : (lowN M n * lowN n x).tdiv ((Nat.gcd (lowN M n * lowN n x).natAbs (lowD M n * lowD n x) : Nat) : Int) = lowN M x ∧ lowD M n * lowD n x / Nat.gcd (lowN M n * lowN n x).natAbs (lowD M n * lowD n x) = lowD M x := by
  refine low_same hM (Nat.mul_pos (lowD_pos hM n) (lowD_pos hn x)) ?_
  have h1 := low_cross hM (n : Int)
  have h2 := low_cross hn x
  rw [Int.natCast_mul]
  generalize lowN M n = a at *
  generalize lowN n x = b at *
  generalize (lowD M n : Int) = c at *
  generalize (lowD n x : Int) = e at *
  calc a * b * (M : Int) = (a * (M : Int)) * b := by rw [Int.mul_assoc, Int.mul_comm b, ← Int.mul_assoc]
    _ = (b * (n : Int)) * c := by rw [h1, Int.mul_comm (n : Int) c, Int.mul_assoc, Int.mul_comm c, Int.mul_comm (n : Int) b]
    _ = x * (c * e) := by rw [h2, Int.mul_assoc, Int.mul_comm e c]
theorem low_self {M : Nat} (hM : 0 < M) : lowN M M = 1 ∧ lowD M M = 1 := by
  have h := low_same (M := M) (d := 1) (z := (M : Int)) (n := 1) hM (by decide) (by simp)
  simpa using And.intro h.1.symm h.2.symm
end Go.Proofs.YtofflboheiflaaaGreatDoor

/- The document's Entropy of a Wide, and EntropyOf. -/
namespace Go.Proofs.YtofflboheiflaaaGreatDoor
open Go.RowKit

/-- A Wide to which f came, in at most c calls. -/
structure WPuts (base M B : Nat) (W0 wr : World) (f : Int → Int) (c : Nat) (L0 : List Ent) (vp vc : Value) (L : List Ent) : Prop where
  wide : WideAt base M wr B vp vc L
  rise : Rising (absL L)
  val : ∀ x, atL (absL L) x = atL (absL L0) x + f x
  len : L.length ≤ L0.length + 20 * c
  kept : IntsKept W0 wr
  moved : Moved B W0 wr
  below : Below base W0 wr
theorem WPuts.trans {base M B : Nat} {W0 W1 W2 : World} {f g : Int → Int} {c d : Nat} {L0 L1 L2 : List Ent} {vp vc vp' vc' : Value} (h : WPuts base M B W0 W1 f c L0 vp vc L1) (k : WPuts base M B W1 W2 g d L1 vp' vc' L2) : WPuts base M B W0 W2 (fun x => f x + g x) (c + d) L0 vp' vc' L2 :=
  ⟨k.wide, k.rise, fun x => by rw [k.val, h.val]; omega, by have := h.len; have := k.len; omega, h.kept.trans k.kept, h.moved.trans k.moved, h.below.trans k.below⟩
theorem WPuts.congr {base M B : Nat} {W0 W1 : World} {f g : Int → Int} {c d : Nat} {L0 L1 : List Ent} {vp vc : Value} (h : WPuts base M B W0 W1 f c L0 vp vc L1) (hc : c ≤ d) (he : ∀ x, f x = g x) : WPuts base M B W0 W1 g d L0 vp vc L1 :=
  ⟨h.wide, h.rise, fun x => by rw [h.val, he], by have := h.len; omega, h.kept, h.moved, h.below⟩
theorem WPuts.later {base M B : Nat} {W0 W1 W2 : World} {f : Int → Int} {c : Nat} {L0 L1 : List Ent} {vp vc : Value} (h : WPuts base M B W0 W1 f c L0 vp vc L1) (hb : Below W1.heap.size W1 W2) : WPuts base M B W0 W2 f c L0 vp vc L1 :=
  ⟨h.wide.later hb, h.rise, h.val, h.len, h.kept.trans (IntsKept.of_below hb), h.moved.trans (Moved.of_below hb h.wide.lt), h.below.trans (hb.mono (by have := h.wide.hB; have := h.wide.lt; omega))⟩
theorem WPuts.start {base M B : Nat} {W0 : World} {L : List Ent} {vp vc : Value} (h : WideAt base M W0 B vp vc L) (hr : Rising (absL L)) {f : Int → Int} (hf : ∀ x, f x = 0) (c : Nat) : WPuts base M B W0 W0 f c L vp vc L :=
  ⟨h, hr, fun x => by rw [hf]; omega, by omega, IntsKept.refl _, Moved.refl _ _, Below.refl _ _⟩
/-- A fraction in a box. -/
structure RBox (W0 W : World) (B : Nat) (n : Int) (d : Nat) : Prop where
  below : Below W0.heap.size W0 W
  hB : W0.heap.size ≤ B
  box : ∃ s ad l cap ad' l' cap', W.cell? ⟨B, 0, none⟩ = some (.bool s) ∧ W.cell? ⟨B, 1, none⟩ = some (.slice ad l cap) ∧ W.cell? ⟨B, 2, none⟩ = some (.slice ad' l' cap') ∧ RatioAt W (.agg #[.bool s, .slice ad l cap, .slice ad' l' cap']) n d
theorem rBox_late {W0 W : World} {n : Int} {d : Nat} {s : Bool} {ad ad' : Option Addr} {l cap l' cap' : Nat} (h : Below W0.heap.size W0 W) (hr : RatioAt W (.agg #[.bool s, .slice ad l cap, .slice ad' l' cap']) n d) : RBox W0 (W.alloc (.cells #[.bool s, .slice ad l cap, .slice ad' l' cap'] 39)) W.heap.size n d :=
  ⟨more_below h _, h.size, s, ad, l, cap, ad', l', cap', by simp, by simp, by simp, hr.later (new_below _ _)⟩
theorem rBox_soon {W0 W : World} {B : Nat} {n : Int} {d : Nat} {s : Bool} {ad ad' : Option Addr} {l cap l' cap' : Nat} (h : Below W0.heap.size W0 W) (hr : RatioAt W (.agg #[.bool s, .slice ad l cap, .slice ad' l' cap']) n d) (hn : NewBox3 W0 W B) : RBox W0 (((W.setCell ⟨B, 0, none⟩ (.bool s)).setCell ⟨B, 1, none⟩ (.slice ad l cap)).setCell ⟨B, 2, none⟩ (.slice ad' l' cap')) B n d := by
  refine ⟨below_set3 h hn.hB _ _ _, hn.hB, s, ad, l, cap, ad', l', cap', ?_, ?_, ?_, ?_⟩
  · rw [World.cell?_setCell_other _ _ _ _ (by simp), World.cell?_setCell_other _ _ _ _ (by simp)]; exact World.cell?_setCell_same _ _ _ hn.c0
  · rw [World.cell?_setCell_other _ _ _ _ (by simp)]; exact World.cell?_setCell_same _ _ _ (by rw [World.cell?_setCell_other _ _ _ _ (by simp)]; exact hn.c1)
  · exact World.cell?_setCell_same _ _ _ (by rw [World.cell?_setCell_other _ _ _ _ (by simp), World.cell?_setCell_other _ _ _ _ (by simp)]; exact hn.c2)
  · obtain ⟨u, q, hv, hu, hq⟩ := hr
    have hv' := hv
    simp only [Value.agg.injEq, Array.mk.injEq, List.cons.injEq, and_true] at hv'
    obtain ⟨_, rfl, rfl⟩ := hv'
    exact ⟨_, _, hv, hu.set3 hn.no hn.c0 hn.c1, hq.set3 hn.no hn.c0 hn.c1⟩
theorem RatioOf_low (x : Int) (n : Nat) (w : World) (h0 : -1000000 ≤ x ∧ x ≤ 1000000) (hd : 0 < n) (hd1 : n ≤ 1000000) :
    Calls Tryz.prog 17 #[.int .i64 x, .int .i64 n] w fun e w' => ∃ r, e = .returned r ∧ RatioAt w' r (lowN n x) (lowD n x) ∧ Below w.heap.size w w' := RatioOf_any x n w (by omega) (by omega) hd (by omega)
theorem low_lt {M : Nat} (hM : 0 < M) {z : Int} (hM6 : M ≤ 4096) (hz : -1000000 ≤ z ∧ z ≤ 1000000) : (lowN M z).natAbs < 1000000 ^ 3 ∧ lowD M z < 1000000 ^ 3 := by
  have p3 : (1000000 : Nat) ^ 3 = 1000000000000000000 := by decide
  have h1 := lowN_le hM z
  have h2 := lowD_le M z
  rw [p3]
  omega
/-- A chance of a chance. -/
theorem Times_low (M n : Nat) (x : Int) (c r : Value) (w : World) (hc : RatioAt w c (lowN M n) (lowD M n)) (hr : RatioAt w r (lowN n x) (lowD n x)) (hM : 0 < M) (hM6 : M ≤ 4096) (hn : 0 < n) (hn6 : n ≤ 4096) (hx : -1000000 ≤ x ∧ x ≤ 1000000) :
    Calls Tryz.prog 15 #[c, r] w fun e w' => ∃ r', e = .returned r' ∧ RatioAt w' r' (lowN M x) (lowD M x) ∧ Below w.heap.size w w' := by
  have l1 := low_lt hM (z := (n : Int)) hM6 (by omega)
  have l2 := low_lt hn (z := x) hn6 hx
  have h := Times_ratio c r _ _ _ _ 3 w hc hr (lowD_pos hM _) (lowD_pos hn _) l1.1 l2.1 l1.2 l2.2 (by decide)
  have e := low_times hM hn x
  rw [e.1, e.2] at h
  exact h
/-- What is less than nothing. -/
theorem Minus_low (M : Nat) (x : Int) (o r : Value) (w : World) (ho : RatioAt w o (lowN 1 0) (lowD 1 0)) (hr : RatioAt w r (lowN M x) (lowD M x)) (hM : 0 < M) (hM6 : M ≤ 4096) (hx : -1000000 ≤ x ∧ x ≤ 1000000) :
    Calls Tryz.prog 33 #[o, r] w fun e w' => ∃ r', e = .returned r' ∧ RatioAt w' r' (lowN M (-x)) (lowD M (-x)) ∧ Below w.heap.size w w' := by
  have l2 := low_lt hM (z := x) hM6 hx
  have l1 := low_lt (M := 1) (by decide) (z := 0) (by decide) (by omega)
  rw [(low_one 0).1, (low_one 0).2] at ho l1
  have h := Minus_ratio o r 0 _ 1 _ 3 w ho hr (by decide) (lowD_pos hM _) l1.1 l2.1 l1.2 l2.2 (by decide)
  have e := low_minus hM x
  rw [e.1, e.2] at h
  exact h
end Go.Proofs.YtofflboheiflaaaGreatDoor

/- A variable that holds a fraction of the document. -/
namespace Go.Proofs.YtofflboheiflaaaGreatDoor
open Go.RowKit

theorem IntsAt.set1 {w : World} {u v : Value} {l : List Nat} {B j : Nat} {y : Value} (h : IntsAt w u l) (hc : w.cell? ⟨B, j, none⟩ = some v) (hv : ∀ x, v ≠ .int .i64 x) : IntsAt (w.setCell ⟨B, j, none⟩ y) u l := by
  rcases h with h | ⟨b, o, cap, h1, h2, h3, h4⟩
  · exact Or.inl h
  · refine Or.inr ⟨b, o, cap, h1, h2, h3, fun i hi => ?_⟩
    rw [World.cell?_setCell_other _ _ _ _ (fun e => ?_)]
    · exact h4 i hi
    · have := h4 i hi
      rw [← e, hc] at this
      exact hv _ (Option.some.inj this)
theorem BigAt.set1 {w : World} {u v : Value} {n B j : Nat} {y : Value} (h : BigAt w u n) (hc : w.cell? ⟨B, j, none⟩ = some v) (hv : ∀ x, v ≠ .int .i64 x) : BigAt (w.setCell ⟨B, j, none⟩ y) u n := by
  obtain ⟨l, h1, h2, h3, h4⟩ := h
  exact ⟨l, h1, h2, h3, h4.set1 hc hv⟩
theorem RatioAt.set1 {w : World} {u v : Value} {n : Int} {d B j : Nat} {y : Value} (h : RatioAt w u n d) (hc : w.cell? ⟨B, j, none⟩ = some v) (hv : ∀ x, v ≠ .int .i64 x) : RatioAt (w.setCell ⟨B, j, none⟩ y) u n d := by
  obtain ⟨a, b, h1, h2, h3⟩ := h
  exact ⟨a, b, h1, h2.set1 hc hv, h3.set1 hc hv⟩
structure FBox (W0 W : World) (B : Nat) (n : Int) (d : Nat) : Prop where
  below : Below W0.heap.size W0 W
  hB : W0.heap.size ≤ B
  f0 : W.frozen? ⟨B, 0, none⟩ = false
  f1 : W.frozen? ⟨B, 1, none⟩ = false
  f2 : W.frozen? ⟨B, 2, none⟩ = false
  box : ∃ s ad l cap ad' l' cap', W.cell? ⟨B, 0, none⟩ = some (.bool s) ∧ W.cell? ⟨B, 1, none⟩ = some (.slice ad l cap) ∧ W.cell? ⟨B, 2, none⟩ = some (.slice ad' l' cap') ∧ RatioAt W (.agg #[.bool s, .slice ad l cap, .slice ad' l' cap']) n d
theorem FBox.later {W0 W W' : World} {B : Nat} {n : Int} {d : Nat} (h : FBox W0 W B n d) (hb : Below W.heap.size W W') : FBox W0 W' B n d := by
  obtain ⟨s, ad, l, cap, ad', l', cap', c0, c1, c2, hr⟩ := h.box
  exact ⟨below_chain h.below hb, h.hB, (frozen_past c0 h.f0 hb).2, (frozen_past c1 h.f1 hb).2, (frozen_past c2 h.f2 hb).2, s, ad, l, cap, ad', l', cap', (cell_past c0 hb).2, (cell_past c1 hb).2, (cell_past c2 hb).2, hr.later hb⟩
theorem fBox_late {W0 W : World} {n : Int} {d : Nat} {s : Bool} {ad ad' : Option Addr} {l cap l' cap' : Nat} (h : Below W0.heap.size W0 W) (hr : RatioAt W (.agg #[.bool s, .slice ad l cap, .slice ad' l' cap']) n d) : FBox W0 (W.alloc (.cells #[.bool s, .slice ad l cap, .slice ad' l' cap'] 39)) W.heap.size n d :=
  ⟨more_below h _, h.size, by simp, by simp, by simp, s, ad, l, cap, ad', l', cap', by simp, by simp, by simp, hr.later (new_below _ _)⟩
/-- Another fraction is stored. -/
theorem fBox_put {W0 W : World} {B : Nat} {n : Int} {d : Nat} {s t : Bool} {ad ad' bd bd' : Option Addr} {l cap l' cap' m bap m' bap' : Nat} (h : Below W0.heap.size W0 W) (hB : W0.heap.size ≤ B) (f0 : W.frozen? ⟨B, 0, none⟩ = false) (f1 : W.frozen? ⟨B, 1, none⟩ = false) (f2 : W.frozen? ⟨B, 2, none⟩ = false) (c0 : W.cell? ⟨B, 0, none⟩ = some (.bool t)) (c1 : W.cell? ⟨B, 1, none⟩ = some (.slice bd m bap)) (c2 : W.cell? ⟨B, 2, none⟩ = some (.slice bd' m' bap')) (hr : RatioAt W (.agg #[.bool s, .slice ad l cap, .slice ad' l' cap']) n d) : FBox W0 (((W.setCell ⟨B, 0, none⟩ (.bool s)).setCell ⟨B, 1, none⟩ (.slice ad l cap)).setCell ⟨B, 2, none⟩ (.slice ad' l' cap')) B n d := by
  have e1 : (W.setCell ⟨B, 0, none⟩ (.bool s)).cell? ⟨B, 1, none⟩ = some (.slice bd m bap) := by rw [World.cell?_setCell_other _ _ _ _ (by simp)]; exact c1
  have e2 : ((W.setCell ⟨B, 0, none⟩ (.bool s)).setCell ⟨B, 1, none⟩ (.slice ad l cap)).cell? ⟨B, 2, none⟩ = some (.slice bd' m' bap') := by rw [World.cell?_setCell_other _ _ _ _ (by simp), World.cell?_setCell_other _ _ _ _ (by simp)]; exact c2
  refine ⟨below_set3 h hB _ _ _, hB, by simpa using f0, by simpa using f1, by simpa using f2, s, ad, l, cap, ad', l', cap', ?_, ?_, ?_, ?_⟩
  · rw [World.cell?_setCell_other _ _ _ _ (by simp), World.cell?_setCell_other _ _ _ _ (by simp)]; exact World.cell?_setCell_same _ _ _ c0
  · rw [World.cell?_setCell_other _ _ _ _ (by simp)]; exact World.cell?_setCell_same _ _ _ e1
  · exact World.cell?_setCell_same _ _ _ e2
  · exact ((hr.set1 c0 (by simp)).set1 e1 (by simp)).set1 e2 (by simp)
theorem fBox_soon {W0 W : World} {B : Nat} {n : Int} {d : Nat} {s : Bool} {ad ad' : Option Addr} {l cap l' cap' : Nat} (h : Below W0.heap.size W0 W) (hr : RatioAt W (.agg #[.bool s, .slice ad l cap, .slice ad' l' cap']) n d) (hn : NewBox3 W0 W B) : FBox W0 (((W.setCell ⟨B, 0, none⟩ (.bool s)).setCell ⟨B, 1, none⟩ (.slice ad l cap)).setCell ⟨B, 2, none⟩ (.slice ad' l' cap')) B n d :=
  fBox_put h hn.hB hn.f0 hn.f1 hn.f2 hn.c0 hn.c1 hn.c2 hr
/-- Its sign is cleared. -/
theorem FBox.plain {W0 W : World} {B : Nat} {n : Int} {d : Nat} (h : FBox W0 W B n d) : FBox W0 (W.setCell ⟨B, 0, none⟩ (.bool false)) B (n.natAbs : Int) d := by
  obtain ⟨s, ad, l, cap, ad', l', cap', c0, c1, c2, u, q, hv, hu, hq⟩ := h.box
  have hv' := hv
  simp only [Value.agg.injEq, Array.mk.injEq, List.cons.injEq, and_true] at hv'
  obtain ⟨_, h1, h2⟩ := hv'
  refine ⟨h.below.setCell h.hB _, h.hB, by simpa using h.f0, by simpa using h.f1, by simpa using h.f2, false, ad, l, cap, ad', l', cap', World.cell?_setCell_same _ _ _ c0, ?_, ?_, ?_⟩
  · rw [World.cell?_setCell_other _ _ _ _ (by simp)]; exact c1
  · rw [World.cell?_setCell_other _ _ _ _ (by simp)]; exact c2
  · refine ⟨_, _, ?_, hu.set1 c0 (by simp), hq.set1 c0 (by simp)⟩
    rw [decide_eq_false (show ¬ (n.natAbs : Int) < 0 by omega), h1, h2]
/-- Another's sign is cleared. -/
theorem FBox.aside {W0 W : World} {B C : Nat} {n : Int} {d : Nat} {s : Bool} {y : Value} (h : FBox W0 W B n d) (hC : W0.heap.size ≤ C) (hne : C ≠ B) (hc : W.cell? ⟨C, 0, none⟩ = some (.bool s)) : FBox W0 (W.setCell ⟨C, 0, none⟩ y) B n d := by
  obtain ⟨t, ad, l, cap, ad', l', cap', c0, c1, c2, hr⟩ := h.box
  refine ⟨h.below.setCell hC _, h.hB, by simpa using h.f0, by simpa using h.f1, by simpa using h.f2, t, ad, l, cap, ad', l', cap', ?_, ?_, ?_, hr.set1 hc (by simp)⟩
  · rw [World.cell?_setCell_far _ _ _ _ hne]; exact c0
  · rw [World.cell?_setCell_far _ _ _ _ hne]; exact c1
  · rw [World.cell?_setCell_far _ _ _ _ hne]; exact c2
theorem FBox.lower {W0 W1 W : World} {B : Nat} {n : Int} {d : Nat} (h : FBox W1 W B n d) (hb : Below W0.heap.size W0 W1) : FBox W0 W B n d :=
  ⟨below_chain hb h.below, Nat.le_trans hb.size h.hB, h.f0, h.f1, h.f2, h.box⟩
theorem low_abs (M : Nat) (z : Int) : ((lowN M z).natAbs : Int) = lowN M (z.natAbs : Int) ∧ lowD M z = lowD M (z.natAbs : Int) := by
  have hg : lowG M z = lowG M (z.natAbs : Int) := by unfold lowG; simp
  unfold lowN lowD
  rw [← hg]
  refine ⟨?_, rfl⟩
  rcases Int.le_total 0 z with h | h
  · rw [show ((z.natAbs : Nat) : Int) = z by omega]
    have := Int.tdiv_nonneg h (show (0 : Int) ≤ (lowG M z : Int) by omega)
    omega
  · rw [show ((z.natAbs : Nat) : Int) = -z by omega, Int.neg_tdiv]
    have := Int.tdiv_nonneg (show 0 ≤ -z by omega) (show (0 : Int) ≤ (lowG M z : Int) by omega)
    rw [Int.neg_tdiv] at this
    omega
end Go.Proofs.YtofflboheiflaaaGreatDoor

/- The document's Over. -/
namespace Go.Proofs.YtofflboheiflaaaGreatDoor
open Go.RowKit

set_option maxRecDepth 10000 in
set_option maxHeartbeats 4000000 in
/-- Over: the quotient by one above 0, in its lowest terms. -/
theorem Over_ratio (v1 v2 : Value) (n1 : Int) (m d1 d2 k : Nat) (w : World) (h1 : RatioAt w v1 n1 d1) (h2 : RatioAt w v2 (m : Int) d2) (hd1 : 0 < d1) (hm0 : 0 < m) (hn1 : n1.natAbs < 1000000 ^ k) (hn2 : m < 1000000 ^ k) (hk1 : d1 < 1000000 ^ k) (hk2 : d2 < 1000000 ^ k) (hk : k + k + 1 + 1 ≤ 1000000) :
    Calls Tryz.prog 35 #[v1, v2] w fun e w' => ∃ r, e = .returned r ∧ RatioAt w' r ((n1 * d2).tdiv ((Nat.gcd (n1 * d2).natAbs (d1 * m) : Nat) : Int)) (d1 * m / Nat.gcd (n1 * d2).natAbs (d1 * m)) ∧ Below w.heap.size w w' := by
  obtain ⟨u1, q1, rfl, hu1, hq1⟩ := h1
  obtain ⟨u2, q2, rfl, hu2, hq2⟩ := h2
  obtain ⟨ad1, l1, cap1, rfl, _⟩ := hu1.len
  obtain ⟨bd1, m1, bap1, rfl, _⟩ := hq1.len
  obtain ⟨ad2, l2, cap2, rfl, _⟩ := hu2.len
  obtain ⟨bd2, m2, bap2, rfl, _⟩ := hq2.len
  obtain ⟨s1, hs1⟩ : ∃ s, decide (n1 < 0) = s := ⟨_, rfl⟩
  have hs2 : decide ((m : Int) < 0) = false := decide_eq_false (by omega)
  rw [hs1, hs2]
  rw [Int.natAbs_natCast] at hu2
  have hB0 : Below w.heap.size w (((w.alloc (.cells #[.bool s1, .slice ad1 l1 cap1, .slice bd1 m1 bap1] 39)).alloc (.cells #[.bool false, .slice ad2 l2 cap2, .slice bd2 m2 bap2] 39)).alloc (.cells #[.bool false, .slice none 0 0, .slice none 0 0] 39)) := (((Below.refl _ _).alloc (Nat.le_refl _) _).alloc (by simp) _).alloc (by simp; omega) _
  have hN := noInts_third3 w (.cells #[.bool s1, .slice ad1 l1 cap1, .slice bd1 m1 bap1] 39) (.cells #[.bool false, .slice ad2 l2 cap2, .slice bd2 m2 bap2] 39) 39
  have hNP := fun (w1 : World) => nine_past (w := w) (w1 := w1) (x0 := .bool s1) (x1 := .slice ad1 l1 cap1) (x2 := .slice bd1 m1 bap1) (y0 := .bool false) (y1 := .slice ad2 l2 cap2) (y2 := .slice bd2 m2 bap2) (r0 := .bool false) (r1 := .slice none 0 0) (r2 := .slice none 0 0) (t := 39)
  have hz0 : w.heap.size + 1 + 1 + 1 = (((w.alloc (.cells #[.bool s1, .slice ad1 l1 cap1, .slice bd1 m1 bap1] 39)).alloc (.cells #[.bool false, .slice ad2 l2 cap2, .slice bd2 m2 bap2] 39)).alloc (.cells #[.bool false, .slice none 0 0, .slice none 0 0] 39)).heap.size := by simp
  generalize hW : (((w.alloc (.cells #[.bool s1, .slice ad1 l1 cap1, .slice bd1 m1 bap1] 39)).alloc (.cells #[.bool false, .slice ad2 l2 cap2, .slice bd2 m2 bap2] 39)).alloc (.cells #[.bool false, .slice none 0 0, .slice none 0 0] 39)) = W0 at hB0 hN hNP hz0
  have hKS : ∀ W, Below W0.heap.size W0 W → (W.cell? ⟨w.heap.size, 0, none⟩ = some (.bool s1) ∧ W.cell? ⟨w.heap.size, 1, none⟩ = some (.slice ad1 l1 cap1) ∧ W.cell? ⟨w.heap.size, 2, none⟩ = some (.slice bd1 m1 bap1)) ∧ (W.cell? ⟨w.heap.size + 1, 0, none⟩ = some (.bool false) ∧ W.cell? ⟨w.heap.size + 1, 1, none⟩ = some (.slice ad2 l2 cap2) ∧ W.cell? ⟨w.heap.size + 1, 2, none⟩ = some (.slice bd2 m2 bap2)) := fun W hb => by
    obtain ⟨a, b, _⟩ := hNP W hb
    exact ⟨a, b⟩
  have HS1 : Hid (∀ W, Below W0.heap.size W0 W → SignedAt W (.agg #[.bool s1, .slice ad1 l1 cap1]) n1) := fun W hb => ⟨_, by rw [hs1], (hu1.later hB0).later hb⟩
  have HU2 : Hid (∀ W, Below W0.heap.size W0 W → BigAt W (.slice ad2 l2 cap2) m) := fun W hb => (hu2.later hB0).later hb
  have HD1 : Hid (∀ W, Below W0.heap.size W0 W → BigAt W (.slice bd1 m1 bap1) d1) := fun W hb => (hq1.later hB0).later hb
  have HD2 : Hid (∀ W, Below W0.heap.size W0 W → BigAt W (.slice bd2 m2 bap2) d2) := fun W hb => (hq2.later hB0).later hb
  have HKS := Hid.mk' hKS
  have HW := Hid.mk' hW
  have HNP := Hid.mk' hNP
  have HN := Hid.mk' hN
  have HB := Hid.mk' hB0
  have hsm : (n1 * (d2 : Int)).natAbs < 1000000 ^ (k + k) := by rw [Int.natAbs_mul, Int.natAbs_natCast, Nat.pow_add]; exact Nat.mul_lt_mul'' hn1 hk2
  have hdd : d1 * m < 1000000 ^ (k + k) := by rw [Nat.pow_add]; exact Nat.mul_lt_mul'' hk1 hn2
  have HM := Hid.mk' (And.intro hsm hdd)
  have HBD : Hid (n1.natAbs < 1000000 ^ k ∧ (d2 : Int).natAbs < 1000000 ^ k) := ⟨hn1, by rw [Int.natAbs_natCast]; exact hk2⟩
  have HDK := Hid.mk' (And.intro hk1 hn2)
  have hcur0 : Below W0.heap.size W0 W0 := Below.refl _ _
  have hcur : Below W0.heap.size W0 W0.drew := (Below.refl _ _).drew
  have hcurA : ∀ X, Below W0.heap.size W0 (W0.alloc X).drew := fun X => (new_below _ _).drew
  have hdn2 : ¬ (d2 : Int) < 0 := by omega
  have HDE : Hid (decide ((d2 : Int) < 0) = false) := decide_eq_false hdn2
  clear hs1 hs2 hu1 hu2 hq1 hq2 hB0 hN hNP hW hKS hn1 hn2 hk1 hk2 hsm hdd hdn2
  generalize hz : n1 * (d2 : Int) = z at HM ⊢
  have HZ := Hid.mk' hz
  clear hz
  go_enter Tryz.func35, Tryz.ntmps35
  go_wp2_with fail
  rw [HW.out]
  go_cut [5] from 6 (fun s wx => ∃ Bs : Nat, s = .pointer (some ⟨Bs, 0, none⟩) ∧ Hid (SignBox W0 wx Bs z))
  case first =>
    go_region_held3 (fun W => (W.cell? ⟨w.heap.size, 0, none⟩ = some (.bool s1) ∧ W.cell? ⟨w.heap.size, 1, none⟩ = some (.slice ad1 l1 cap1) ∧ W.cell? ⟨w.heap.size, 2, none⟩ = some (.slice bd1 m1 bap1)) ∧ (W.cell? ⟨w.heap.size + 1, 0, none⟩ = some (.bool false) ∧ W.cell? ⟨w.heap.size + 1, 1, none⟩ = some (.slice ad2 l2 cap2) ∧ W.cell? ⟨w.heap.size + 1, 2, none⟩ = some (.slice bd2 m2 bap2)))
      (first | exact HKS.out _ hcur0 | exact HKS.out _ hcur | exact HKS.out _ (hcurA _) | (refine HKS.out _ ?_; assumption) | (refine HKS.out _ (more_below ?_ _); assumption) | (refine HKS.out _ (setB_below ?_ NB.hB _ _); assumption))
      (first
        | (go_at_call 39; refine (SignedMul_any _ _ n1 (d2 : Int) k _ (HS1.out _ ?_) (HX1.out _ ?_) HBD.out.1 HBD.out.2 (by omega)).mono ?_; (first | exact hbw1 | exact more_below hbw1 _); (first | exact Below.refl _ _ | exact new_below _ _); rintro e w2 ⟨sv2, rfl, ⟨x2, rfl, hx2⟩, hb2⟩; rw [HZ.out] at hx2 ⊢; obtain ⟨ad4, l4, cap4, rfl, _⟩ := hx2.len; (first | (have hbw2 := below_chain hbw1 hb2; try have NB := NB.later hb2) | (have hbw2 := below_chain (more_below hbw1 _) hb2; have NB := newBox_of hbw1 hb2)); (try (have y0 := NB.c0; have y1 := NB.c1; have y2 := NB.f0; have y3 := NB.f1)); have HX5 := Hid.mk' hx2; clear hx2 hb2)
        | (go_at_call 62; refine (wide_any (.slice bd2 m2 bap2) d2 _ (HD2.out _ ?_)).mono ?_; (first | exact hcur | exact hcurA _); rintro e w1 ⟨sv1, rfl, ⟨x1, rfl, hx1⟩, hb1⟩; rw [HDE.out]; obtain ⟨ad3, l3, cap3, rfl, _⟩ := hx1.len; (first | have hbw1 := below_chain hcur hb1 | (have hbw1 := below_chain (hcurA _) hb1; have NB := newBox_of hcur0 (below_chain ((Below.refl _ _).drew) hb1))); have HX1 : Hid (∀ W, Below w1.heap.size w1 W → SignedAt W (.agg #[.bool false, .slice ad3 l3 cap3]) (d2 : Int)) := (fun W hb => ⟨_, by rw [HDE.out], hx1.later hb⟩); clear hx1 hb1))
    all_goals
      go_wp2_with fail
      go_meet
      first | exact ⟨_, rfl, signBox_late hbw2 HX5.out⟩ | exact ⟨_, rfl, signBox_soon hbw2 HX5.out NB⟩
  case rest =>
  obtain ⟨Bs, rfl, HSB⟩ := hcut
  obtain ⟨u, x0, x1, hu⟩ := HSB.out.box
  obtain ⟨ad, l, cap, rfl, _⟩ := hu.len
  obtain ⟨sg, hsg⟩ : ∃ sg, decide (z < 0) = sg := ⟨_, rfl⟩
  rw [hsg] at x0
  have hBs := HSB.out.hB
  have hSc : ∀ W, Below wc.heap.size wc W → W.cell? ⟨Bs, 0, none⟩ = some (.bool sg) ∧ W.cell? ⟨Bs, 1, none⟩ = some (.slice ad l cap) ∧ W.cell? ⟨w.heap.size, 2, none⟩ = some (.slice bd1 m1 bap1) ∧ W.cell? ⟨w.heap.size + 1, 1, none⟩ = some (.slice ad2 l2 cap2) := fun W hb => by
    have h1 := HKS.out _ (below_chain HSB.out.below hb)
    exact ⟨(cell_past x0 hb).2, (cell_past x1 hb).2, h1.1.2.2, h1.2.2.1⟩
  have HSC := Hid.mk' hSc
  have hmul := BigMul_any _ _ d1 m k wc.drew (HD1.out _ HSB.out.below.drew) (HU2.out _ HSB.out.below.drew) HDK.out.1 HDK.out.2 (by omega)
  have HMUL := Hid.mk' hmul
  have HU := Hid.mk' hu
  have HSG := Hid.mk' hsg
  have hc0 : Below wc.heap.size wc wc := Below.refl _ _
  have hc1 : Below wc.heap.size wc wc.drew := (Below.refl _ _).drew
  have HBC := Hid.mk' HSB.out.below
  have hsetS : ∀ (W : World) (x y q : Value), Below wc.heap.size wc W → Bs ≠ w.heap.size + 1 + 1 → (((W.setCell ⟨w.heap.size + 1 + 1, 0, none⟩ x).setCell ⟨w.heap.size + 1 + 1, 1, none⟩ y).setCell ⟨w.heap.size + 1 + 1, 2, none⟩ q).cell? ⟨Bs, 0, none⟩ = some (.bool sg) ∧ (((W.setCell ⟨w.heap.size + 1 + 1, 0, none⟩ x).setCell ⟨w.heap.size + 1 + 1, 1, none⟩ y).setCell ⟨w.heap.size + 1 + 1, 2, none⟩ q).cell? ⟨Bs, 1, none⟩ = some (.slice ad l cap) ∧ (((W.setCell ⟨w.heap.size + 1 + 1, 0, none⟩ x).setCell ⟨w.heap.size + 1 + 1, 1, none⟩ y).setCell ⟨w.heap.size + 1 + 1, 2, none⟩ q).cell? ⟨w.heap.size, 2, none⟩ = some (.slice bd1 m1 bap1) ∧ (((W.setCell ⟨w.heap.size + 1 + 1, 0, none⟩ x).setCell ⟨w.heap.size + 1 + 1, 1, none⟩ y).setCell ⟨w.heap.size + 1 + 1, 2, none⟩ q).cell? ⟨w.heap.size + 1, 1, none⟩ = some (.slice ad2 l2 cap2) := fun W x y q hb hne => by
    obtain ⟨e0, e1, e2, e3⟩ := HSC.out W hb
    refine ⟨?_, ?_, ?_, ?_⟩
    · rw [World.cell?_setCell_far _ _ _ _ (fun e => hne e.symm), World.cell?_setCell_far _ _ _ _ (fun e => hne e.symm), World.cell?_setCell_far _ _ _ _ (fun e => hne e.symm)]; exact e0
    · rw [World.cell?_setCell_far _ _ _ _ (fun e => hne e.symm), World.cell?_setCell_far _ _ _ _ (fun e => hne e.symm), World.cell?_setCell_far _ _ _ _ (fun e => hne e.symm)]; exact e1
    · rw [World.cell?_setCell_far _ _ _ _ (by show w.heap.size + 1 + 1 ≠ w.heap.size; omega), World.cell?_setCell_far _ _ _ _ (by show w.heap.size + 1 + 1 ≠ w.heap.size; omega), World.cell?_setCell_far _ _ _ _ (by show w.heap.size + 1 + 1 ≠ w.heap.size; omega)]; exact e2
    · rw [World.cell?_setCell_far _ _ _ _ (by show w.heap.size + 1 + 1 ≠ w.heap.size + 1; omega), World.cell?_setCell_far _ _ _ _ (by show w.heap.size + 1 + 1 ≠ w.heap.size + 1; omega), World.cell?_setCell_far _ _ _ _ (by show w.heap.size + 1 + 1 ≠ w.heap.size + 1; omega)]; exact e3
  have HSS := Hid.mk' hsetS
  have hne : Bs ≠ w.heap.size + 1 + 1 := by omega
  have hg0 := (HKS.out _ HSB.out.below).2.1
  clear hu hsg hSc hmul hsetS x0 x1
  go_wp2_with fail
  go_region_held3 (fun W => W.cell? ⟨Bs, 0, none⟩ = some (.bool sg) ∧ W.cell? ⟨Bs, 1, none⟩ = some (.slice ad l cap) ∧ W.cell? ⟨w.heap.size, 2, none⟩ = some (.slice bd1 m1 bap1) ∧ W.cell? ⟨w.heap.size + 1, 1, none⟩ = some (.slice ad2 l2 cap2))
    (first | exact HSC.out _ hc0 | exact HSC.out _ hc1 | exact HSC.out _ hc2 | exact HSC.out _ hc3 | exact HSS.out _ _ _ _ hc3 hne)
    (first
      | (go_at_call 38; refine (Lowest_any _ z (d1 * m) (k + k) w6 HRA.out (Nat.mul_pos hd1 hm0) HM.out.1 HM.out.2 (by omega)).mono ?_; rintro e w7 ⟨rv, rfl, ⟨ur, qr, rfl, hur, hqr⟩, hb7⟩; obtain ⟨ad8, l8, cap8, rfl, _⟩ := hur.len; obtain ⟨ad9, l9, cap9, rfl, _⟩ := hqr.len; have hc3 := below_chain hc2 hb7; have hbw7 := below_chain HBC.out hc3; obtain ⟨_, _, ⟨c0, c1, c2⟩, f0, f1, f2⟩ := HNP.out w7 hbw7; have HUR := Hid.mk' hur; have HQR := Hid.mk' hqr; have HBW7 := Hid.mk' hbw7; clear hur hqr hb7 hbw7)
      | (go_at_call 40; refine HMUL.out.mono ?_; rintro e w6 ⟨qv, rfl, hqv, hb6⟩; obtain ⟨bd6, m6, bap6, rfl, _⟩ := hqv.len; have hc2 := below_chain hc1 hb6; have HRA : Hid (RatioAt w6 (.agg #[.bool sg, .slice ad l cap, .slice bd6 m6 bap6]) z (d1 * m)) := ⟨_, _, by rw [HSG.out], HU.out.later hc2, hqv⟩; clear hqv hb6))
  go_wp2_with fail
  refine bodyPost_ret (v := .agg #[.bool (decide (z.tdiv ((Nat.gcd z.natAbs (d1 * m) : Nat) : Int) < 0)), .slice ad8 l8 cap8, .slice ad9 l9 cap9]) (by simp [results, Tryz.results35, go_sem, c0, c1, c2]) rfl ⟨_, rfl, ⟨_, _, rfl, HUR.out.set3 (HN.out.later (by omega) HBW7.out) c0 c1, HQR.out.set3 (HN.out.later (by omega) HBW7.out) c0 c1⟩, below_set3 (below_chain HB.out HBW7.out) (by omega) _ _ _⟩
end Go.Proofs.YtofflboheiflaaaGreatDoor

/- The document's VariationOf. -/
namespace Go.Proofs.YtofflboheiflaaaGreatDoor
open Go.RowKit

theorem RatioAt.set3 {W : World} {B : Nat} {n : Int} {d : Nat} {x y z t : Value} {r : Value} {u : Bool} {bd bd' : Option Addr} {m bap m' bap' : Nat} (hr : RatioAt W r n d) (c0 : W.cell? ⟨B, 0, none⟩ = some (.bool u)) (c1 : W.cell? ⟨B, 1, none⟩ = some (.slice bd m bap)) (c2 : W.cell? ⟨B, 2, none⟩ = some (.slice bd' m' bap')) (ht : t = r) : RatioAt (((W.setCell ⟨B, 0, none⟩ x).setCell ⟨B, 1, none⟩ y).setCell ⟨B, 2, none⟩ z) t n d := by
  subst ht
  exact ((hr.set1 c0 (by simp)).set1 (v := .slice bd m bap) (by rw [World.cell?_setCell_other _ _ _ _ (by simp)]; exact c1) (by simp)).set1 (v := .slice bd' m' bap') (by rw [World.cell?_setCell_other _ _ _ _ (by simp), World.cell?_setCell_other _ _ _ _ (by simp)]; exact c2) (by simp)
theorem low_big {M : Nat} (hM : 0 < M) {z : Int} (hM6 : M ≤ 100000000) (hz : -1000000000 ≤ z ∧ z ≤ 1000000000) : (lowN M z).natAbs < 1000000 ^ 3 ∧ lowD M z < 1000000 ^ 3 := by
  have p3 : (1000000 : Nat) ^ 3 = 1000000000000000000 := by decide
  have h1 := lowN_le hM z
  have h2 := lowD_le M z
  rw [p3]
  omega
theorem low_zero {M : Nat} (hM : 0 < M) : lowN 1 0 = lowN M 0 ∧ lowD 1 0 = lowD M 0 := by
  refine ⟨?_, ?_⟩
  · simp [lowN]
  · simp [lowD, lowG, Nat.div_self hM]
theorem low_more {M c : Nat} (hM : 0 < M) (hc : 0 < c) (z : Int) : lowN M z = lowN (M * c) (z * c) ∧ lowD M z = lowD (M * c) (z * c) := by
  have h := low_same (M := M * c) (d := M) (z := z * c) (n := z) (Nat.mul_pos hM hc) hM (by simp only [Int.natCast_mul]; grind)
  exact h
theorem Minus_two (M : Nat) (x y : Int) (r s : Value) (w : World) (hr : RatioAt w r (lowN M x) (lowD M x)) (hs : RatioAt w s (lowN M y) (lowD M y)) (hM : 0 < M) (hM6 : M ≤ 100000000) (hx : -1000000000 ≤ x ∧ x ≤ 1000000000) (hy : -1000000000 ≤ y ∧ y ≤ 1000000000) :
    Calls Tryz.prog 33 #[r, s] w fun e w' => ∃ r', e = .returned r' ∧ RatioAt w' r' (lowN M (x - y)) (lowD M (x - y)) ∧ Below w.heap.size w w' := by
  have l1 := low_big hM (z := x) hM6 hx
  have l2 := low_big hM (z := y) hM6 hy
  have h := Minus_ratio r s _ _ _ _ 3 w hr hs (lowD_pos hM _) (lowD_pos hM _) l1.1 l2.1 l1.2 l2.2 (by decide)
  have c1 := low_cross hM x
  have c2 := low_cross hM y
  have e := low_same (M := M) (d := lowD M x * lowD M y) (z := x - y) (n := lowN M x * (lowD M y : Int) + -lowN M y * (lowD M x : Int)) hM (Nat.mul_pos (lowD_pos hM _) (lowD_pos hM _)) (by
    simp only [Int.natCast_mul]
    grind)
  rw [e.1, e.2] at h
  exact h
theorem Plus_two (M : Nat) (x y : Int) (r s : Value) (w : World) (hr : RatioAt w r (lowN M x) (lowD M x)) (hs : RatioAt w s (lowN M y) (lowD M y)) (hM : 0 < M) (hM6 : M ≤ 100000000) (hx : -1000000000 ≤ x ∧ x ≤ 1000000000) (hy : -1000000000 ≤ y ∧ y ≤ 1000000000) :
    Calls Tryz.prog 34 #[r, s] w fun e w' => ∃ r', e = .returned r' ∧ RatioAt w' r' (lowN M (x + y)) (lowD M (x + y)) ∧ Below w.heap.size w w' := by
  have l1 := low_big hM (z := x) hM6 hx
  have l2 := low_big hM (z := y) hM6 hy
  have h := Plus_ratio r s _ _ _ _ 3 w hr hs (lowD_pos hM _) (lowD_pos hM _) l1.1 l2.1 l1.2 l2.2 (by decide)
  have e := low_plus hM x y
  rw [e.1, e.2] at h
  exact h
theorem Over_two (M : Nat) (x : Int) (r s : Value) (w : World) (hr : RatioAt w r (lowN M x) (lowD M x)) (hs : RatioAt w s (lowN 1 2) (lowD 1 2)) (hM : 0 < M) (hM6 : M ≤ 100000000) (hx : -1000000000 ≤ x ∧ x ≤ 1000000000) :
    Calls Tryz.prog 35 #[r, s] w fun e w' => ∃ r', e = .returned r' ∧ RatioAt w' r' (lowN (2 * M) x) (lowD (2 * M) x) ∧ Below w.heap.size w w' := by
  have l1 := low_big hM (z := x) hM6 hx
  rw [(low_one 2).1, (low_one 2).2] at hs
  have h := Over_ratio r s _ 2 _ 1 3 w hr hs (lowD_pos hM _) (by decide) l1.1 (by decide) l1.2 (by decide) (by decide)
  have c1 := low_cross hM x
  have e := low_same (M := 2 * M) (d := lowD M x * 2) (z := x) (n := lowN M x * ((1 : Nat) : Int)) (by omega) (Nat.mul_pos (lowD_pos hM _) (by decide)) (by
    simp only [Int.natCast_mul]
    grind)
  rw [e.1, e.2] at h
  exact h

set_option maxRecDepth 100000 in
set_option maxHeartbeats 4000000 in
theorem VariationOf_right (b o cap b' o' cap' n P Q : Nat) (p q : Nat → Int) (w : World) (h : RowAt w b o n p) (k : RowAt w b' o' n q) (hok1 : OkW p n) (hok2 : OkW q n) (hn : n ≤ 16) (hP : sumN p n = P) (hQ : sumN q n = Q) :
    Calls Tryz.prog 12 #[.slice (some ⟨b, o, none⟩) n cap, .slice (some ⟨b', o', none⟩) n cap'] w fun e w' => ∃ r, e = .returned r ∧ RatioAt w' r (lowN (2 * (P * Q)) (sumN (apV p q P Q) n)) (lowD (2 * (P * Q)) (sumN (apV p q P Q) n)) ∧ Below w.heap.size w w' := by
  have hP1 : 1 ≤ P ∧ P ≤ 4096 := by have := hok1.pos; have := hok1.le; omega
  have hQ1 : 1 ≤ Q ∧ Q ≤ 4096 := by have := hok2.pos; have := hok2.le; omega
  obtain ⟨M, hM⟩ : ∃ M, M = P * Q := ⟨_, rfl⟩
  have hM1 : 1 ≤ M ∧ M ≤ 16777216 := by
    rw [hM]
    have : P * Q ≤ 4096 * 4096 := Nat.mul_le_mul hP1.2 hQ1.2
    exact ⟨Nat.mul_pos hP1.1 hQ1.1, Nat.le_trans this (by decide)⟩
  have hM8 : M ≤ 100000000 := Nat.le_trans hM1.2 (by decide)
  rw [← hM]
  obtain ⟨W0, hW0⟩ : ∃ W0, W0 = w.alloc (.cells #[.bool false, .slice none 0 0, .slice none 0 0] 39) := ⟨_, rfl⟩
  have hb0 : Below w.heap.size w W0 := by rw [hW0]; exact new_below _ _
  have hz0 : W0.heap.size = w.heap.size + 1 := by rw [hW0]; simp
  have HNB : Hid (∀ W, Below W0.heap.size W0 W → NewBox3 w W w.heap.size) := fun W hb => by
    rw [hW0] at hb
    exact newBox3_of (Below.refl _ _) hb
  have HSP : Hid (∀ W, Below W0.heap.size W0 W → Calls Tryz.prog 13 #[.slice (some ⟨b, o, none⟩) n cap] W fun e w' => e = .returned (.int .i64 P) ∧ w' = W) := fun W hb => by
    have := Sum_some b o cap n p W ((h.later hb0).later hb) (fun k hk => by have := hok1.part hk; omega) (fun i hi => by have := hok1.lt hi; omega) (by omega)
    rw [hP] at this
    exact this
  have HSQ : Hid (∀ W, Below W0.heap.size W0 W → Calls Tryz.prog 13 #[.slice (some ⟨b', o', none⟩) n cap'] W fun e w' => e = .returned (.int .i64 Q) ∧ w' = W) := fun W hb => by
    have := Sum_some b' o' cap' n q W ((k.later hb0).later hb) (fun k hk => by have := hok2.part hk; omega) (fun i hi => by have := hok2.lt hi; omega) (by omega)
    rw [hQ] at this
    exact this
  have HR : Hid (RowAt W0 b o n p ∧ RowAt W0 b' o' n q) := ⟨h.later hb0, k.later hb0⟩
  have HPI : Hid (∀ i, i < n → 0 ≤ p i ∧ p i ≤ 4096) := fun i hi => hok1.lt hi
  have HQI : Hid (∀ i, i < n → 0 ≤ q i ∧ q i ≤ 4096) := fun i hi => hok2.lt hi
  have HSB : Hid (∀ k, k ≤ n → 0 ≤ sumN (apV p q P Q) k ∧ sumN (apV p q P Q) k ≤ 268435456) := fun k hk => by
    have h1 := sumN_nonneg (z := apV p q P Q) (n := k) (fun i hi => (apV_le (HPI.out i (by omega)) (HQI.out i (by omega)) hP1.2 hQ1.2).1)
    have h2 := sumN_bound (f := apV p q P Q) (B := 16777216) (n := k) (fun i hi => by have := apV_le (HPI.out i (by omega)) (HQI.out i (by omega)) hP1.2 hQ1.2; omega)
    have : (k : Int) * 16777216 ≤ 268435456 := by omega
    omega
  have hro := RatioOf_low 0 1 W0 (by omega) (by omega) (by omega)
  rw [(low_zero hM1.1).1, (low_zero hM1.1).2] at hro
  have HB0 := Hid.mk' hb0
  have HW0 := Hid.mk' hW0
  have HZ0 := Hid.mk' hz0
  have HM := Hid.mk' hM
  clear h k hb0 hW0 hz0 hok1 hok2 hP hQ hM
  go_enter Tryz.func12, Tryz.ntmps12
  go_upto_region 1 with fail
  rw [← HW0.out]
  go_wp2_with fail
  refine hro.mono ?_
  clear hro
  rintro e w1 ⟨r1, rfl, hr1, hb1⟩
  obtain ⟨s1, ad1, l1, ca1, ad2, l2, ca2, rfl⟩ := hr1.parts
  obtain ⟨W1, hW1⟩ : ∃ W1, W1 = w1.alloc (.cells #[.bool s1, .slice ad1 l1 ca1, .slice ad2 l2 ca2] 39) := ⟨_, rfl⟩
  have HF0 : Hid (FBox W0 W1 w1.heap.size (lowN M 0) (lowD M 0)) := by rw [hW1]; exact fBox_late hb1 hr1
  have HW1 := Hid.mk' hW1
  clear hr1 hb1 hW1
  go_upto_region 2 with fail
  rw [← HW1.out]
  clear HW1
  go_wp2_with fail
  go_loopw [6, 7] (fun i _ wr => ∃ k : Nat, k ≤ n ∧ i = .int .i64 k ∧ Hid (FBox W0 wr w1.heap.size (lowN M (sumN (apV p q P Q) k)) (lowD M (sumN (apV p q P Q) k)))) (fun i _ _ => n - (intOf i).toNat)
  case atStart => exact ⟨0, Nat.zero_le _, rfl, HF0⟩
  case round =>
    clear HF0
    obtain ⟨k, hk, rfl, HF⟩ := hrel
    rcases Nat.lt_or_ge k n with h1 | h1
    · have hkn : (k : Int) < (n : Int) := by omega
      have hk0 : (0 : Int) ≤ (k : Int) := by omega
      have HKS : Hid (∀ W, Below wr.heap.size wr W → W.cell? ⟨b, o + k, none⟩ = some (.int .i64 (p k)) ∧ W.cell? ⟨b', o' + k, none⟩ = some (.int .i64 (q k))) := fun W hb => ⟨HR.out.1.later (below_chain HF.out.below hb) k h1, HR.out.2.later (below_chain HF.out.below hb) k h1⟩
      have HV : Hid (sumN (apV p q P Q) (k + 1) = sumN (apV p q P Q) k + ((p k * Q - q k * P).natAbs : Int)) := rfl
      have hs1 := HSB.out k hk
      have hpk := HPI.out k h1
      have hqk := HQI.out k h1
      have hx := mul_le6 hpk hQ1.2
      have hy := mul_le6 hqk hP1.2
      generalize p k = x at *
      generalize q k = y at *
      have HRP : Hid (∀ W, Calls Tryz.prog 17 #[.int .i64 x, .int .i64 P] W fun e w' => ∃ r, e = .returned r ∧ RatioAt w' r (lowN M (x * Q)) (lowD M (x * Q)) ∧ Below W.heap.size W w') := fun W => by
        have := RatioOf_low x P W (by omega) hP1.1 (by omega)
        rw [(low_more hP1.1 hQ1.1 x).1, (low_more hP1.1 hQ1.1 x).2, ← HM.out] at this
        exact this
      have HRQ : Hid (∀ W, Calls Tryz.prog 17 #[.int .i64 y, .int .i64 Q] W fun e w' => ∃ r, e = .returned r ∧ RatioAt w' r (lowN M (y * P)) (lowD M (y * P)) ∧ Below W.heap.size W w') := fun W => by
        have := RatioOf_low y Q W (by omega) hQ1.1 (by omega)
        rw [(low_more hQ1.1 hP1.1 y).1, (low_more hQ1.1 hP1.1 y).2, Nat.mul_comm, ← HM.out] at this
        exact this
      generalize x * (Q : Int) = A at *
      generalize y * (P : Int) = B at *
      have HMI : Hid (∀ (W : World) (r s : Value), RatioAt W r (lowN M A) (lowD M A) → RatioAt W s (lowN M B) (lowD M B) → Calls Tryz.prog 33 #[r, s] W fun e w' => ∃ r', e = .returned r' ∧ RatioAt w' r' (lowN M (A - B)) (lowD M (A - B)) ∧ Below W.heap.size W w') := fun W r s hr hs => Minus_two M A B r s W hr hs hM1.1 hM8 (by omega) (by omega)
      have HSP' : Hid (∀ W, Below wr.heap.size wr W → Calls Tryz.prog 13 #[.slice (some ⟨b, o, none⟩) n cap] W fun e w' => e = .returned (.int .i64 P) ∧ w' = W) := fun W hb => HSP.out W (below_chain HF.out.below hb)
      have HSQ' : Hid (∀ W, Below wr.heap.size wr W → Calls Tryz.prog 13 #[.slice (some ⟨b', o', none⟩) n cap'] W fun e w' => e = .returned (.int .i64 Q) ∧ w' = W) := fun W hb => HSQ.out W (below_chain HF.out.below hb)
      have hcur0 : Below wr.heap.size wr wr := Below.refl _ _
      have hcur : Below wr.heap.size wr wr.drew := (Below.refl _ _).drew
      have hcurA : ∀ X, Below wr.heap.size wr (wr.alloc X).drew := fun X => (new_below _ _).drew
      have hab : -16777216 ≤ A - B ∧ A - B ≤ 16777216 := by omega
      clear hx hy hpk hqk
      go_upto_region 5 with fail
      go_cut [7] from 30 to 34 (fun s' wx => ∃ Bs : Nat, s' = .pointer (some ⟨Bs, 0, none⟩) ∧ Hid (FBox wr wx Bs (lowN M (A - B)) (lowD M (A - B))))
      case first =>
        go_region_held3 (fun W => W.cell? ⟨b, o + k, none⟩ = some (.int .i64 x) ∧ W.cell? ⟨b', o' + k, none⟩ = some (.int .i64 y))
          (first | exact HKS.out _ hcur0 | exact HKS.out _ hcur | exact HKS.out _ (hcurA _) | (refine HKS.out _ ?_; assumption) | (refine HKS.out _ (more_below ?_ _); assumption) | (refine HKS.out _ (below_set3 ?_ NB.hB _ _ _); assumption))
          (first
            | (go_at_call 33; refine (HMI.out _ _ _ ?_ ?_).mono ?_; (first | exact HXP.out | exact HXP.out.later (new_below _ _)); (first | exact HXQ.out | exact HXQ.out.later (new_below _ _)); rintro e w7 ⟨rv, rfl, hrv, hb7⟩; obtain ⟨sg, ad8, l8, cap8, ad9, l9, cap9, rfl⟩ := hrv.parts; (first | (have hbw7 := below_chain hbP hb7; try have NB := NB.later hb7) | (have hbw7 := below_chain hbQ hb7; try have NB := NB.later hb7) | (have hbw7 := below_chain (more_below hbP _) hb7; have NB := newBox3_of hbP hb7) | (have hbw7 := below_chain (more_below hbQ _) hb7; have NB := newBox3_of hbQ hb7)); (try (have y0 := NB.c0; have y1 := NB.c1; have y2 := NB.c2; have y3 := NB.f0; have y4 := NB.f1; have y5 := NB.f2)); have HRV := Hid.mk' hrv; clear hrv hb7)
            | (go_at_call_of 17 P; refine (HRP.out _).mono ?_; rintro e w5 ⟨r5, rfl, hr5, hb5⟩; obtain ⟨sg5, ad5, l5, cap5, ad6, l6, cap6, rfl⟩ := hr5.parts; (first | have hbP := below_chain hcur hb5 | (have hbP := below_chain (hcurA _) hb5; have NB := newBox3_of hcur0 (below_chain ((Below.refl _ _).drew) hb5)) | (have hbP := below_chain hbQ hb5; have HXQ := Hid.mk' (HXQ.out.later hb5); (try have NB := NB.later hb5)) | (have hbP := below_chain (more_below hbQ _) hb5; have HXQ := Hid.mk' ((HXQ.out.later (new_below _ _)).later hb5); have NB := newBox3_of hbQ hb5)); have HXP := Hid.mk' hr5; clear hr5 hb5)
            | (go_at_call_of 17 Q; refine (HRQ.out _).mono ?_; rintro e w6 ⟨r6, rfl, hr6, hb6⟩; obtain ⟨sg6, ad10, l10, cap10, ad11, l11, cap11, rfl⟩ := hr6.parts; (first | have hbQ := below_chain hcur hb6 | (have hbQ := below_chain (hcurA _) hb6; have NB := newBox3_of hcur0 (below_chain ((Below.refl _ _).drew) hb6)) | (have hbQ := below_chain hbP hb6; have HXP := Hid.mk' (HXP.out.later hb6); (try have NB := NB.later hb6)) | (have hbQ := below_chain (more_below hbP _) hb6; have HXP := Hid.mk' ((HXP.out.later (new_below _ _)).later hb6); have NB := newBox3_of hbP hb6)); have HXQ := Hid.mk' hr6; clear hr6 hb6)
            | (go_at_call_of 13 b; refine (HSP'.out _ ?_).mono ?_; (first | exact hcur | exact hcurA _ | exact hbQ | exact more_below hbQ _); rintro e wS ⟨rfl, hwS⟩; rw [hwS]; clear hwS)
            | (go_at_call_of 13 b'; refine (HSQ'.out _ ?_).mono ?_; (first | exact hcur | exact hcurA _ | exact hbP | exact more_below hbP _); rintro e wS ⟨rfl, hwS⟩; rw [hwS]; clear hwS))
        all_goals
          go_wp2_with fail
          go_meet
          first | exact ⟨_, rfl, fBox_late hbw7 HRV.out⟩ | exact ⟨_, rfl, fBox_soon hbw7 HRV.out NB⟩
      case rest =>
      obtain ⟨Bd, rfl, HFD⟩ := hcut
      obtain ⟨Wc, hWc⟩ : ∃ Wc, Wc = wc := ⟨_, rfl⟩
      rw [← hWc] at HFD ⊢
      clear hWc hcur0 hcur hcurA HMI HRP HRQ HKS HSP' HSQ'
      obtain ⟨sd, ad8, l8, cap8, ad9, l9, cap9, x0, x1, x2, hrd⟩ := HFD.out.box
      have f0 := HFD.out.f0
      have hBd := HFD.out.hB
      have HFC := Hid.mk' (HF.out.later HFD.out.below)
      have hw1 : w1.heap.size < wr.heap.size := by
        obtain ⟨_, _, _, _, _, _, _, c0, _⟩ := HF.out.box
        exact cell_lt c0
      have hne : Bd ≠ w1.heap.size := by omega
      have HBW := Hid.mk' (HF.out.below)
      clear hrd
      obtain ⟨W6, hW6⟩ : ∃ W6, W6 = Wc.setCell ⟨Bd, 0, none⟩ (.bool false) := ⟨_, rfl⟩
      have HD6 : Hid (FBox W0 W6 Bd (lowN M ((A - B).natAbs : Int)) (lowD M ((A - B).natAbs : Int))) := by
        have := (HFD.out.lower HF.out.below).plain
        rw [(low_abs M (A - B)).1, (low_abs M (A - B)).2, ← hW6] at this
        exact this
      have HS6 : Hid (FBox W0 W6 w1.heap.size (lowN M (sumN (apV p q P Q) k)) (lowD M (sumN (apV p q P Q) k))) := by
        rw [hW6]
        exact HFC.out.aside (by have := HF.out.below.size; omega) hne x0
      have HW6 := Hid.mk' hW6
      clear hW6
      go_upto_region 7 with fail
      rw [← HW6.out]
      clear HW6 x0 x1 x2 f0 HFD HFC HF
      obtain ⟨s5, ad5, l5, cap5, ad6, l6, cap6, c0, c1, c2, hr5⟩ := HS6.out.box
      obtain ⟨s7, ad7, l7, cap7, ad10, l10, cap10, d0, d1, d2, hr7⟩ := HD6.out.box
      have hpl := Plus_two M (sumN (apV p q P Q) k) ((A - B).natAbs : Int) _ _ W6 hr5 hr7 hM1.1 hM8 (by omega) (by omega)
      rw [← HV.out] at hpl
      have HB6 := Hid.mk' HS6.out.below
      have HFZ := Hid.mk' (And.intro HS6.out.f0 (And.intro HS6.out.f1 HS6.out.f2))
      have HBB := Hid.mk' HS6.out.hB
      clear hr5 hr7 HD6
      go_wp2_with fail
      refine hpl.mono ?_
      clear hpl
      rintro e w8 ⟨r8, rfl, hr8, hb8⟩
      obtain ⟨s8, ad11, l11, cap11, ad12, l12, cap12, rfl⟩ := hr8.parts
      have e0 := (cell_past c0 hb8).2
      have e1 := (cell_past c1 hb8).2
      have e2 := (cell_past c2 hb8).2
      have g0 := (frozen_past c0 HFZ.out.1 hb8).2
      have g1 := (frozen_past c1 HFZ.out.2.1 hb8).2
      have g2 := (frozen_past c2 HFZ.out.2.2 hb8).2
      have HN8 := Hid.mk' (fBox_put (below_chain HB6.out hb8) HBB.out g0 g1 g2 e0 e1 e2 hr8)
      clear hr8 hb8 c0 c1 c2 d0 d1 d2 HS6
      go_wp2_with fail
      exact ⟨⟨k + 1, by omega, by go_num, HN8⟩, by simp [intOf]; omega⟩
    · obtain rfl : k = n := by omega
      obtain ⟨s5, ad5, l5, cap5, ad6, l6, cap6, c0, c1, c2, hr5⟩ := HF.out.box
      have hs1 := HSB.out k (Nat.le_refl _)
      have hw1 : w1.heap.size < wr.heap.size := cell_lt c0
      have hne : w.heap.size ≠ w1.heap.size := by have := HF.out.hB; have := HZ0.out; omega
      have HKS : Hid (∀ W, Below wr.heap.size wr W → W.cell? ⟨w1.heap.size, 0, none⟩ = some (.bool s5) ∧ W.cell? ⟨w1.heap.size, 1, none⟩ = some (.slice ad5 l5 cap5) ∧ W.cell? ⟨w1.heap.size, 2, none⟩ = some (.slice ad6 l6 cap6)) := fun W hb => ⟨(cell_past c0 hb).2, (cell_past c1 hb).2, (cell_past c2 hb).2⟩
      have HSS : Hid (∀ (W : World) (x y z : Value), Below wr.heap.size wr W → (((W.setCell ⟨w.heap.size, 0, none⟩ x).setCell ⟨w.heap.size, 1, none⟩ y).setCell ⟨w.heap.size, 2, none⟩ z).cell? ⟨w1.heap.size, 0, none⟩ = some (.bool s5) ∧ (((W.setCell ⟨w.heap.size, 0, none⟩ x).setCell ⟨w.heap.size, 1, none⟩ y).setCell ⟨w.heap.size, 2, none⟩ z).cell? ⟨w1.heap.size, 1, none⟩ = some (.slice ad5 l5 cap5) ∧ (((W.setCell ⟨w.heap.size, 0, none⟩ x).setCell ⟨w.heap.size, 1, none⟩ y).setCell ⟨w.heap.size, 2, none⟩ z).cell? ⟨w1.heap.size, 2, none⟩ = some (.slice ad6 l6 cap6)) := fun W x y z hb => by
        obtain ⟨e0, e1, e2⟩ := HKS.out W hb
        refine ⟨?_, ?_, ?_⟩
        · rw [World.cell?_setCell_far _ _ _ _ hne, World.cell?_setCell_far _ _ _ _ hne, World.cell?_setCell_far _ _ _ _ hne]; exact e0
        · rw [World.cell?_setCell_far _ _ _ _ hne, World.cell?_setCell_far _ _ _ _ hne, World.cell?_setCell_far _ _ _ _ hne]; exact e1
        · rw [World.cell?_setCell_far _ _ _ _ hne, World.cell?_setCell_far _ _ _ _ hne, World.cell?_setCell_far _ _ _ _ hne]; exact e2
      have HOV : Hid (∀ (W : World) (s : Value), Below wr.heap.size wr W → RatioAt W s (lowN 1 2) (lowD 1 2) → Calls Tryz.prog 35 #[.agg #[.bool s5, .slice ad5 l5 cap5, .slice ad6 l6 cap6], s] W fun e w' => ∃ r', e = .returned r' ∧ RatioAt w' r' (lowN (2 * M) (sumN (apV p q P Q) k)) (lowD (2 * M) (sumN (apV p q P Q) k)) ∧ Below W.heap.size W w') := fun W s hb hs => Over_two M _ _ s W (hr5.later hb) hs hM1.1 hM8 (by omega)
      have HR2 : Hid (∀ W, Calls Tryz.prog 17 #[.int .i64 2, .int .i64 1] W fun e w' => ∃ r, e = .returned r ∧ RatioAt w' r (lowN 1 2) (lowD 1 2) ∧ Below W.heap.size W w') := fun W => RatioOf_low 2 1 W (by omega) (by omega) (by omega)
      have hcur0 : Below wr.heap.size wr wr := Below.refl _ _
      have hcur : Below wr.heap.size wr wr.drew := (Below.refl _ _).drew
      have HBW := Hid.mk' HF.out.below
      clear c0 c1 c2 hr5 HF
      go_wp2_with fail
      go_region_held3 (fun W => W.cell? ⟨w1.heap.size, 0, none⟩ = some (.bool s5) ∧ W.cell? ⟨w1.heap.size, 1, none⟩ = some (.slice ad5 l5 cap5) ∧ W.cell? ⟨w1.heap.size, 2, none⟩ = some (.slice ad6 l6 cap6))
        (first | exact HKS.out _ hcur0 | exact HKS.out _ hcur | exact HKS.out _ hc1 | exact HKS.out _ hc2 | exact HSS.out _ _ _ _ hc2)
        (first
          | (go_at_call 35; refine (HOV.out _ _ hc1 HX1.out).mono ?_; rintro e w7 ⟨rv, rfl, hrv, hb7⟩; obtain ⟨sg, ad8, l8, cap8, ad9, l9, cap9, rfl⟩ := hrv.parts; have hc2 := below_chain hc1 hb7; have hbw7 := below_chain HBW.out hc2; have NB := HNB.out w7 hbw7; have y0 := NB.c0; have y1 := NB.c1; have y2 := NB.c2; have y3 := NB.f0; have y4 := NB.f1; have y5 := NB.f2; have HRV := Hid.mk' hrv; have HB7 := Hid.mk' (below_chain HB0.out hbw7); clear hrv hb7 hbw7)
          | (go_at_call 17; refine (HR2.out _).mono ?_; rintro e w5 ⟨r5, rfl, hr5, hb5⟩; obtain ⟨sg5, ad10, l10, cap10, ad11, l11, cap11, rfl⟩ := hr5.parts; have hc1 := below_chain hcur hb5; have HX1 := Hid.mk' hr5; clear hr5 hb5))
      go_wp2_with fail
      exact bodyPost_ret (v := .agg #[.bool sg, .slice ad8 l8 cap8, .slice ad9 l9 cap9]) (by simp [results, Tryz.results12, go_sem, y0, y1, y2]) rfl ⟨_, rfl, HRV.out.set3 y0 y1 y2 rfl, below_set3 HB7.out (Nat.le_refl _) _ _ _⟩
end Go.Proofs.YtofflboheiflaaaGreatDoor

/- The document's Told of a fraction. -/
namespace Go.Proofs.YtofflboheiflaaaGreatDoor
open Go.RowKit

theorem cmpOf_le {a b : Nat} (h : a ≤ b) : cmpOf a b ≤ 0 := by
  unfold cmpOf
  split
  · omega
  · split
    · omega
    · omega

set_option maxRecDepth 100000 in
set_option maxHeartbeats 2000000 in
theorem RTold_ok (v : Value) (m d : Nat) (w : World) (h : RatioAt w v (m : Int) d) (hm : m ≤ 4611686018427387904) (hd : d ≤ 4611686018427387904) :
    Calls Tryz.prog 11 #[v] w fun e w' => e = .returned (.tuple #[.agg #[.int .i64 m, .int .i64 d], .bool true]) ∧ Below w.heap.size w w' := by
  obtain ⟨u, q, rfl, hu, hq⟩ := h
  rw [Int.natAbs_natCast] at hu
  rw [decide_eq_false (show ¬ (m : Int) < 0 by omega)]
  obtain ⟨ad1, l1, cap1, rfl, _⟩ := hu.len
  obtain ⟨ad2, l2, cap2, rfl, _⟩ := hq.len
  obtain ⟨W0, hW0⟩ : ∃ W0, W0 = (w.alloc (.cells #[.bool false, .slice ad1 l1 cap1, .slice ad2 l2 cap2] 39)).alloc (.cells #[.int .i64 0, .int .i64 0] 26) := ⟨_, rfl⟩
  have hb0 : Below w.heap.size w W0 := by rw [hW0]; exact below_chain (new_below _ _) (new_below _ _)
  have HKS : Hid (∀ W, Below W0.heap.size W0 W → (W.cell? ⟨w.heap.size, 0, none⟩ = some (.bool false) ∧ W.cell? ⟨w.heap.size, 1, none⟩ = some (.slice ad1 l1 cap1) ∧ W.cell? ⟨w.heap.size, 2, none⟩ = some (.slice ad2 l2 cap2)) ∧ (W.cell? ⟨w.heap.size + 1, 0, none⟩ = some (.int .i64 0) ∧ W.cell? ⟨w.heap.size + 1, 1, none⟩ = some (.int .i64 0)) ∧ W.frozen? ⟨w.heap.size + 1, 0, none⟩ = false ∧ W.frozen? ⟨w.heap.size + 1, 1, none⟩ = false) := fun W hb => by
    have hr := hb
    rw [hW0] at hr
    have hr2 := res_past hr
    rw [World.size_alloc] at hr2
    have a : ∀ j v, #[Value.bool false, .slice ad1 l1 cap1, .slice ad2 l2 cap2][j]? = some v → W0.cell? ⟨w.heap.size, j, none⟩ = some v := fun j v h => by rw [hW0, World.cell?_alloc_lt _ _ ⟨w.heap.size, j, none⟩ (by simp), World.cell?_alloc_at _ _ _ _ rfl]; exact h
    exact ⟨⟨(cell_past (a 0 _ rfl) hb).2, (cell_past (a 1 _ rfl) hb).2, (cell_past (a 2 _ rfl) hb).2⟩, ⟨hr2.1, hr2.2.1⟩, hr2.2.2⟩
  have HU : Hid (∀ W, Below W0.heap.size W0 W → BigAt W (.slice ad1 l1 cap1) m ∧ BigAt W (.slice ad2 l2 cap2) d) := fun W hb => ⟨(hu.later hb0).later hb, (hq.later hb0).later hb⟩
  have hof : Calls Tryz.prog 31 #[.int .i64 4611686018427387904] W0 fun e w' => ∃ v, e = .returned v ∧ BigAt w' v 4611686018427387904 ∧ Below W0.heap.size W0 w' := BigOf_any 4611686018427387904 W0 (Nat.le_refl _)
  have k4 : (4611686018427387904 : Nat) < 1000000 ^ 4 := by decide
  obtain ⟨z1, hz1⟩ : ∃ z, z = cmpOf m 4611686018427387904 := ⟨_, rfl⟩
  obtain ⟨z2, hz2⟩ : ∃ z, z = cmpOf d 4611686018427387904 := ⟨_, rfl⟩
  have hle1 : ¬ 0 < z1 := by rw [hz1]; have := cmpOf_le hm; omega
  have hle2 : ¬ 0 < z2 := by rw [hz2]; have := cmpOf_le hd; omega
  have HC1 : Hid (∀ (W : World) (v : Value), Below W0.heap.size W0 W → BigAt W v 4611686018427387904 → Calls Tryz.prog 32 #[.slice ad1 l1 cap1, v] W fun e w' => e = .returned (.int .i64 z1) ∧ ∃ m, w' = W.drewN m) := fun W v hb hv => by
    rw [hz1]; exact BigCmp_any _ _ m _ 4 W (HU.out W hb).1 hv (Nat.lt_of_le_of_lt hm k4) k4 (by decide)
  have HC2 : Hid (∀ (W : World) (v : Value), Below W0.heap.size W0 W → BigAt W v 4611686018427387904 → Calls Tryz.prog 32 #[.slice ad2 l2 cap2, v] W fun e w' => e = .returned (.int .i64 z2) ∧ ∃ m, w' = W.drewN m) := fun W v hb hv => by
    rw [hz2]; exact BigCmp_any _ _ d _ 4 W (HU.out W hb).2 hv (Nat.lt_of_le_of_lt hd k4) k4 (by decide)
  have HI1 : Hid (∀ W, Below W0.heap.size W0 W → Calls Tryz.prog 19 #[.slice ad1 l1 cap1] W fun e w' => e = .returned (.tuple #[.int .i64 m, .bool true]) ∧ w' = W) := fun W hb => BigInt_any _ m W (HU.out W hb).1 hm
  have HI2 : Hid (∀ W, Below W0.heap.size W0 W → Calls Tryz.prog 19 #[.slice ad2 l2 cap2] W fun e w' => e = .returned (.tuple #[.int .i64 d, .bool true]) ∧ w' = W) := fun W hb => BigInt_any _ d W (HU.out W hb).2 hd
  have HB0 := Hid.mk' hb0
  have HW0 := Hid.mk' hW0
  clear hu hq hb0 hW0 hz1 hz2 k4 hm hd
  go_enter Tryz.func11, Tryz.ntmps11
  go_upto_region 1 with fail
  rw [← HW0.out]
  go_wp2_with fail
  refine hof.mono ?_
  clear hof
  rintro e w1 ⟨v1, rfl, hv1, hb1⟩
  obtain ⟨⟨x0, x1, x2⟩, _, _, _⟩ := HKS.out w1 hb1
  have hc1 := HC1.out w1 v1 hb1 hv1
  go_wp2_with fail
  refine hc1.mono ?_
  rintro e w2 ⟨rfl, m2, hw2⟩
  have hb2 : Below w1.heap.size w1 w2 := by rw [hw2]; exact below_drewN (Below.refl _ _) _
  have hv2 := hv1.later hb2
  have hb02 := below_chain hb1 hb2
  clear hw2 hb1 hv1 hb2 hc1 x0 x1 x2
  obtain ⟨⟨x0, x1, x2⟩, _, _, _⟩ := HKS.out w2 hb02
  have hc2 := HC2.out w2 v1 hb02 hv2
  go_wp2_with fail
  refine hc2.mono ?_
  rintro e w3 ⟨rfl, m3, hw3⟩
  have hb3 : Below w2.heap.size w2 w3 := by rw [hw3]; exact below_drewN (Below.refl _ _) _
  have hb03 := below_chain hb02 hb3
  clear hw3 hb02 hv2 hb3 hc2 x0 x1 x2
  obtain ⟨⟨x0, x1, x2⟩, ⟨c0, c1⟩, f0, f1⟩ := HKS.out w3 hb03
  have hi1 := HI1.out w3 hb03
  have hi2 := HI2.out w3 hb03
  have HB3 := Hid.mk' (below_chain HB0.out hb03)
  clear hb03
  go_wp2_with (first
    | (go_at_call_of 19 cap1; refine hi1.mono ?_; rintro e w4 ⟨rfl, hw4⟩; rw [hw4]; clear hw4)
    | (go_at_call_of 19 cap2; refine hi2.mono ?_; rintro e w4 ⟨rfl, hw4⟩; rw [hw4]; clear hw4))
  refine bodyPost_ret (v := .tuple #[.agg #[.int .i64 m, .int .i64 d], .bool true]) (by simp [results, Tryz.results11, go_sem, c0, c1]) rfl ⟨rfl, ?_⟩
  exact (HB3.out.setCell (by show w.heap.size ≤ w.heap.size + 1; omega) _).setCell (by show w.heap.size ≤ w.heap.size + 1; omega) _
end Go.Proofs.YtofflboheiflaaaGreatDoor

/- The law's closed fact: of a fair coin the entropy is 1. -/
namespace Go.Proofs.YtofflboheiflaaaGreatDoor
open Go.RowKit Go.Maps

theorem pr_two' : Pr 2 := (isPr_iff 2).1 (by decide)
theorem coin_val (x : Int) : sumN (entV (fun _ => 3) 6 x) 2 = atL [((2 : Int), (6 : Int))] x := by
  have h := multI_step x (n := 6) (d := 2) (by decide) pr_two' (by decide)
  have e : 6 / 2 = 3 := by decide
  rw [e] at h
  show 0 + (3 * multI x 6 - 3 * multI x (3 : Int).toNat) + (3 * multI x 6 - 3 * multI x (3 : Int).toNat) = if (2 : Int) = x then 6 else 0
  have e3 : (3 : Int).toNat = 3 := rfl
  rw [e3, h]
  rw [show ((2 : Nat) : Int) = 2 from rfl]
  by_cases hx : x = 2
  · subst hx; simp; omega
  · rw [if_neg hx, if_neg (fun e => hx e.symm)]; omega
theorem coin_list {base : Nat} {w : World} {dn : Int} {v : Value} (h : LogBy base 6 (fun x => sumN (entV (fun _ => 3) 6 x) 2) w dn v) : dn = 1 ∧ OwnAt w v 1 (fun _ => 2) (fun _ => 1) := by
  obtain ⟨l, hr, hv, _, hd, hl⟩ := h.list
  have he : ∀ x, atL l x = atL [((2 : Int), (6 : Int))] x := fun x => by rw [hv, coin_val]
  have hr' : Rising [((2 : Int), (6 : Int))] := List.pairwise_singleton _ _
  rw [gList_same hr hr' he, over_same hr hr' he] at hl
  rw [gList_same hr hr' he] at hd
  have e1 : overL (gList 6 (List.map Prod.snd [((2 : Int), (6 : Int))])) [((2 : Int), (6 : Int))] = [(2, 1)] := by decide
  rw [e1] at hl
  refine ⟨by rw [hd]; decide, ?_⟩
  rcases hl with ⟨_, h0⟩ | ⟨g, cap, h1, h2⟩
  · cases h0
  · refine Or.inr ⟨g, cap, h1, fun k hk => ?_⟩
    obtain rfl : k = 0 := by omega
    exact h2 0 (by decide)

set_option maxRecDepth 100000 in
set_option maxHeartbeats 1000000 in
theorem coin_any (a : Nat → Addr) (w : World) (hE : Errs w a) : Calls Tryz.prog 6 #[] w fun e w' => e = .returned (.bool true) ∧ Below w.heap.size w w' := by
  have hb0 : Below w.heap.size w (w.alloc (.cells #[.int .i64 3, .int .i64 3] 3)) := new_below _ _
  have hent := Entropy_ok a w.heap.size 0 2 2 6 (fun _ => 3) (w.alloc (.cells #[.int .i64 3, .int .i64 3] 3)) (hE.below hb0) (fun i hi => by
    rcases (show i = 0 ∨ i = 1 by omega) with rfl | rfl
    · simp
    · simp) (by decide) (by decide) (fun i _ => by decide) (by decide) (by decide) (by decide) (by decide)
  have HB0 := Hid.mk' hb0
  clear hE hb0
  go_enter Tryz.func6, Tryz.ntmps6
  go_wp2_with fail
  refine hent.mono ?_
  clear hent
  rintro e w1 ⟨dn, v, rfl, hlb, hb1⟩
  obtain ⟨rfl, hown⟩ := coin_list hlb
  obtain ⟨ad, m, cap, rfl⟩ := own_form hown
  have hbW : Below w1.heap.size w1 ((w1.alloc (.cells #[.int .i64 1, .slice ad m cap] 45)).alloc (.cells #[.int .i64 2, .int .i64 1] 64)) := below_chain (new_below _ _) (new_below _ _)
  have hS := same_own 1 (.slice ad m cap) (.slice (some ⟨w1.heap.size + 1, 0, none⟩) 1 1) 1 (fun _ => 2) (fun _ => 1) ((w1.alloc (.cells #[.int .i64 1, .slice ad m cap] 45)).alloc (.cells #[.int .i64 2, .int .i64 1] 64)) (OwnAt.later hown hbW)
    (Or.inr ⟨w1.heap.size + 1, 1, rfl, fun k hk => by
      obtain rfl : k = 0 := by omega
      exact ⟨by simp, by simp⟩⟩) (by decide)
  have HB := Hid.mk' (below_chain (below_chain HB0.out hb1) hbW)
  clear hlb hown hb1 hbW HB0
  go_wp2_with fail
  refine hS.mono ?_
  clear hS
  rintro e w2 ⟨rfl, hb2⟩
  go_wp2_with fail
  go_ret
  exact ⟨rfl, below_chain HB.out hb2⟩
end Go.Proofs.YtofflboheiflaaaGreatDoor
