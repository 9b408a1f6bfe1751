/- The law's isLog. -/
import Derived.Test.YtgellgobgiolnaaGreatDoorOfAny
import Derived.Test.YtgellgobgiolnaaGreatDoorCode
import Derived.Test.YtgellgobgiolnaaGreatDoorWLog
import Derived.Test.YtgellgobgiolnaaGreatDoorWToldW
import Derived.Test.YtgellgobgiolnaaGreatDoorValidWalk
import Derived.Test.YtgellgobgiolnaaGreatDoorPackA
import Derived.Deep.CutRange
import Derived.Test.YtgellgobgiolnaaGreatDoorTold
namespace Go.Proofs.YtgellgobgiolnaaGreatDoor
open Go.RowKit

theorem same_own (den : Int) (v1 v2 : Value) (n : Nat) (p c : Nat → Int) (w : World) (h1 : OwnAt w v1 n p c) (h2 : OwnAt w v2 n p c) (hn : n ≤ 1000000) :
    Calls Tryz.prog 27 #[.agg #[.int .i64 den, v1], .agg #[.int .i64 den, v2]] w fun e w' => e = .returned (.bool true) ∧ Below w.heap.size w w' := by
  rcases h1 with ⟨rfl, rfl⟩ | ⟨g1, c1, rfl, t1⟩
  · rcases h2 with ⟨rfl, _⟩ | ⟨g2, c2, rfl, t2⟩
    · exact SameLog_none den none none 0 0 w
    · exact SameLog_none den none _ 0 c2 w
  · rcases h2 with ⟨rfl, rfl⟩ | ⟨g2, c2, rfl, t2⟩
    · exact SameLog_none den _ none c1 0 w
    · exact SameLog_some den g1 0 c1 g2 0 c2 n p c w t1 t2 hn
theorem own_form {w : World} {v : Value} {n : Nat} {p c : Nat → Int} (h : OwnAt w v n p c) : ∃ ad m cap, v = .slice ad m cap := by
  rcases h with ⟨rfl, _⟩ | ⟨g, cap, rfl, _⟩
  · exact ⟨_, _, _, rfl⟩
  · exact ⟨_, _, _, rfl⟩

set_option maxRecDepth 10000 in
set_option maxHeartbeats 1000000 in
theorem isLog_ok (den : Int) (v1 v2 : Value) (n : Nat) (p c : Nat → Int) (w : World) (h1 : OwnAt w v1 n p c) (h2 : OwnAt w v2 n p c) (hn : n ≤ 1000000) :
    Calls Tryz.prog 12 #[.agg #[.int .i64 den, v1], .nilIface, .agg #[.int .i64 den, v2], .int .i64 0] w fun e w' => e = .returned (.bool true) ∧ Below w.heap.size w w' := by
  obtain ⟨ad1, m1, cap1, rfl⟩ := own_form h1
  obtain ⟨ad2, m2, cap2, rfl⟩ := own_form h2
  have hb0 : Below w.heap.size w ((w.alloc (.cells #[.int .i64 den, .slice ad1 m1 cap1] 27)).alloc (.cells #[.int .i64 den, .slice ad2 m2 cap2] 27)) := ((Below.refl _ _).alloc (Nat.le_refl _) _).alloc (by simp) _
  have hs := same_own den _ _ n p c _ (h1.later hb0) (h2.later hb0) hn
  have HB := Hid.mk' hb0
  clear h1 h2 hb0
  go_enter Tryz.func12, Tryz.ntmps12
  go_wp2_with fail
  refine hs.mono ?_
  clear hs
  rintro e w1 ⟨rfl, hb1⟩
  go_wp2_with fail
  go_ret
  exact ⟨rfl, below_chain HB.out hb1⟩

set_option maxRecDepth 10000 in
set_option maxHeartbeats 1000000 in
theorem isLog_err (a : Nat → Addr) (k : Nat) (hk : k < 8) (d2 : Int) (ad2 : Option Addr) (m2 cap2 : Nat) (w : World) (h : Errs w a) :
    Calls Tryz.prog 12 #[.agg #[.int .i64 0, .slice none 0 0], .iface 184 (.pointer (some (a k))), .agg #[.int .i64 d2, .slice ad2 m2 cap2], .int .i64 ((k : Int) + 1)] w fun e w' => e = .returned (.bool true) ∧ Below w.heap.size w w' := by
  have hb0 : Below w.heap.size w ((w.alloc (.cells #[.int .i64 0, .slice none 0 0] 27)).alloc (.cells #[.int .i64 d2, .slice ad2 m2 cap2] 27)) := ((Below.refl _ _).alloc (Nat.le_refl _) _).alloc (by simp) _
  have hc := coded_err a k hk ((k : Int) + 1) _ (h.below hb0)
  rw [decide_eq_true rfl] at hc
  have HB := Hid.mk' hb0
  have hk1 : (0 : Int) < (k : Int) + 1 := by omega
  clear h hb0
  go_enter Tryz.func12, Tryz.ntmps12
  go_wp2_with fail
  refine hc.mono ?_
  clear hc
  rintro e w1 ⟨rfl, hb1⟩
  have c0 := hb1.cell (p := ⟨w.heap.size, 0, none⟩) (by simp; omega)
  have c1 := hb1.cell (p := ⟨w.heap.size, 1, none⟩) (by simp; omega)
  rw [World.cell?_alloc_lt _ _ ⟨w.heap.size, 0, none⟩ (by simp), World.cell?_alloc_at _ _ _ _ rfl] at c0
  rw [World.cell?_alloc_lt _ _ ⟨w.heap.size, 1, none⟩ (by simp), World.cell?_alloc_at _ _ _ _ rfl] at c1
  simp at c0 c1
  have HB1 := Hid.mk' (below_chain HB.out hb1)
  clear hb1
  go_wp2_with fail
  go_ret
  exact ⟨rfl, HB1.out⟩
end Go.Proofs.YtgellgobgiolnaaGreatDoor

/- The document's LogSum. -/
namespace Go.Proofs.YtgellgobgiolnaaGreatDoor
open Go.RowKit

def FitsL (M G : Nat) (l : List (Int × Int)) : Prop := M / G ≤ 1000000 ∧ ∀ e ∈ l, (e.2.tdiv (G : Int)).natAbs ≤ 1099511627776
theorem fits_iff (M G : Nat) (L : List Ent) : FitsW M G L ↔ FitsL M G (absL L) := by
  unfold FitsW FitsL
  constructor
  · rintro ⟨h1, h2⟩
    refine ⟨h1, fun e he => ?_⟩
    obtain ⟨f, hf, rfl⟩ := List.mem_map.1 he
    exact h2 f hf
  · rintro ⟨h1, h2⟩
    exact ⟨h1, fun e he => h2 _ (absL_mem he)⟩
theorem zs_abs (L : List Ent) : zsOf L = (absL L).map Prod.snd := by unfold zsOf absL; rw [List.map_map]; rfl
theorem bool_of (P : Prop) : ∃ b : Bool, b = true ↔ P := by
  by_cases h : P
  · exact ⟨true, ⟨fun _ => h, fun _ => rfl⟩⟩
  · exact ⟨false, ⟨(fun e => by cases e), (fun e => absurd e h)⟩⟩
/-- What is told of a sum l over M: in form, or the bound. -/
def ToldOf (M : Nat) (l : List (Int × Int)) (w : World) (dn : Int) (v : Value) (code : Int) : Prop := (FitsL M (gList M (l.map Prod.snd)) l ∧ dn = ((M / gList M (l.map Prod.snd) : Nat) : Int) ∧ code = 0 ∧ ListAt w v (overL (gList M (l.map Prod.snd)) l)) ∨ (¬ FitsL M (gList M (l.map Prod.snd)) l ∧ dn = 0 ∧ v = .slice none 0 0 ∧ code = 2)

end Go.Proofs.YtgellgobgiolnaaGreatDoor

/- logs.Valid at any logarithm. -/
namespace Go.Proofs.YtgellgobgiolnaaGreatDoor
open Go.RowKit

set_option maxHeartbeats 1000000 in
/-- Valid at a slice without terms, wherever it lies. -/
theorem Valid_zero (den : Int) (ad : Option Addr) (cap : Nat) (p c : Nat → Int) (a : Nat → Addr) (ok : Bool) (hok : ok = true ↔ OkLog den 0 p c) (w : World) (h : Errs w a) :
    Calls Tryz.prog 70 #[.agg #[.int .i64 den, .slice ad 0 cap]] w fun e w' => e = .returned (shapeErr ok a) ∧ Below w.heap.size w w' := by
  have HOK : Hid (ok = true ↔ den = 1) := hok.trans (OkLog_none den p c)
  have HE : Hid (Errs w a) := h
  clear hok h
  have hal : ∀ X, (w.alloc X).cell? ⟨2, 0, none⟩ = some (.iface 184 (.pointer (some (a 2)))) := fun X => shape_later HE.out ((Below.refl _ _).alloc (Nat.le_refl _) _)
  by_cases h1 : 1 ≤ den
  · by_cases h2 : den ≤ 1000000
    · by_cases h3 : den = 1
      · have hbt : ok = true := HOK.out.2 h3
        subst hbt
        subst h3
        go_enter Tryz.func70, Tryz.ntmps70
        go_wp2_with fail
        refine wp_loop_rounds 1 ?_
        rw [rounds_succ]
        go_wp2_with fail
        go_ret
        exact ⟨rfl, (Below.refl _ _).alloc (Nat.le_refl _) _⟩
      · have hbf : ok = false := not_true_of HOK.out h3
        subst hbf
        have hgb : (den != 1) = true := by simp [h3]
        clear h3
        go_enter Tryz.func70, Tryz.ntmps70
        go_wp2_with fail
        refine wp_loop_rounds 1 ?_
        rw [rounds_succ]
        go_wp2_with fail
        go_ret
        exact ⟨rfl, (Below.refl _ _).alloc (Nat.le_refl _) _⟩
    · have hbf : ok = false := not_true_of HOK.out (fun h => h2 (by omega))
      subst hbf
      go_enter Tryz.func70, Tryz.ntmps70
      go_wp2_with fail
      go_ret
      exact ⟨rfl, (Below.refl _ _).alloc (Nat.le_refl _) _⟩
  · have hbf : ok = false := not_true_of HOK.out (fun h => h1 (by omega))
    subst hbf
    go_enter Tryz.func70, Tryz.ntmps70
    go_wp2_with fail
    go_ret
    exact ⟨rfl, (Below.refl _ _).alloc (Nat.le_refl _) _⟩
theorem Valid_log (den : Int) (sv : Value) (n : Nat) (p c : Nat → Int) (a : Nat → Addr) (ok : Bool) (hok : ok = true ↔ OkLog den n p c) (w : World) (h : Errs w a) (hs : LogAt w sv n p c) (hn : n ≤ 1000000) :
    Calls Tryz.prog 70 #[.agg #[.int .i64 den, sv]] w fun e w' => e = .returned (shapeErr ok a) ∧ Below w.heap.size w w' := by
  rcases hs with ⟨ad, cap, rfl, rfl⟩ | ⟨b, o, cap, rfl, h0, ht⟩
  · exact Valid_zero den ad cap p c a ok hok w h
  · exact Valid_terms den b o n cap p c a ok hok w h ht hn
theorem LogAt.slice {w : World} {sv : Value} {n : Nat} {p c : Nat → Int} (h : LogAt w sv n p c) : ∃ ad cap, sv = .slice ad n cap := by
  rcases h with ⟨ad, cap, rfl, rfl⟩ | ⟨b, o, cap, rfl, _⟩
  · exact ⟨_, _, rfl⟩
  · exact ⟨_, _, rfl⟩
end Go.Proofs.YtgellgobgiolnaaGreatDoor

/- logs.Add where the sum has a form. -/
namespace Go.Proofs.YtgellgobgiolnaaGreatDoor
open Go.RowKit Go.Maps

/-- What the walk of Add keeps from a world on. -/
structure AddKeeps (B : Nat) (da db : Nat) (s1 s2 : Value) (n1 n2 : Nat) (t1 t2 : List (Int × Int)) (W : World) : Prop where
  a0 : W.cell? ⟨B, 0, none⟩ = some (.int .i64 da)
  a1 : W.cell? ⟨B, 1, none⟩ = some s1
  b0 : W.cell? ⟨B + 1, 0, none⟩ = some (.int .i64 db)
  b1 : W.cell? ⟨B + 1, 1, none⟩ = some s2
  r0 : W.cell? ⟨B + 1 + 1, 0, none⟩ = some (.int .i64 0)
  r1 : W.cell? ⟨B + 1 + 1, 1, none⟩ = some (.slice none 0 0)
  f0 : W.frozen? ⟨B + 1 + 1, 0, none⟩ = false
  f1 : W.frozen? ⟨B + 1 + 1, 1, none⟩ = false
  l1 : LogAt W s1 n1 (pOf t1) (cOf t1)
  l2 : LogAt W s2 n2 (pOf t2) (cOf t2)
theorem AddKeeps.later {B da db : Nat} {s1 s2 : Value} {n1 n2 : Nat} {t1 t2 : List (Int × Int)} {W W' : World} (h : AddKeeps B da db s1 s2 n1 n2 t1 t2 W) (hb : Below W.heap.size W W') : AddKeeps B da db s1 s2 n1 n2 t1 t2 W' :=
  ⟨(cell_past h.a0 hb).2, (cell_past h.a1 hb).2, (cell_past h.b0 hb).2, (cell_past h.b1 hb).2, (cell_past h.r0 hb).2, (cell_past h.r1 hb).2, (frozen_past h.r0 h.f0 hb).2, (frozen_past h.r1 h.f1 hb).2, h.l1.later hb, h.l2.later hb⟩

theorem box_past {w3 w4 : World} {x y : Value} {t : TypeId} (hb : Below ((w3.alloc (.cells #[x, y] t)).drew).heap.size ((w3.alloc (.cells #[x, y] t)).drew) w4) : w4.cell? ⟨w3.heap.size, 0, none⟩ = some x ∧ w4.cell? ⟨w3.heap.size, 1, none⟩ = some y ∧ w4.frozen? ⟨w3.heap.size, 0, none⟩ = false ∧ w4.frozen? ⟨w3.heap.size, 1, none⟩ = false := by
  have h : Below (w3.alloc (.cells #[x, y] t)).heap.size (w3.alloc (.cells #[x, y] t)) w4 := below_chain ((Below.refl _ _).drew) hb
  have c0 : (w3.alloc (.cells #[x, y] t)).cell? ⟨w3.heap.size, 0, none⟩ = some x := by rw [World.cell?_alloc_at _ _ _ _ rfl]; rfl
  have c1 : (w3.alloc (.cells #[x, y] t)).cell? ⟨w3.heap.size, 1, none⟩ = some y := by rw [World.cell?_alloc_at _ _ _ _ rfl]; rfl
  exact ⟨(cell_past c0 h).2, (cell_past c1 h).2, (frozen_past c0 (frozen_new rfl) h).2, (frozen_past c1 (frozen_new rfl) h).2⟩
theorem below_set {w3 w4 : World} (hc : Below w3.heap.size w3 w4) (x y : Value) : Below w3.heap.size w3 ((w4.setCell ⟨w3.heap.size, 0, none⟩ x).setCell ⟨w3.heap.size, 1, none⟩ y) := (hc.setCell (Nat.le_refl _) _).setCell (Nat.le_refl _) _
theorem quo_i64 {a b : Nat} (h : a ≤ 1000000) : IntKind.i64.wrap ((a : Int) / (b : Int)) = ((a / b : Nat) : Int) := by
  have h0 : (a : Int) / (b : Int) = ((a / b : Nat) : Int) := by simp
  have h1 : a / b ≤ a := Nat.div_le_self _ _
  rw [h0, IntKind.wrap_i64]
  generalize a / b = q at h1
  omega
theorem below_alloc {w W : World} (h : Below w.heap.size w W) (X : Obj) : Below w.heap.size w (W.alloc X) := h.alloc h.size X

/-- The new sum's box and its map. -/
structure SumBox (w3 wx : World) (Bs mb : Nat) (D : Int) : Prop where
  below : Below w3.heap.size w3 wx
  s0 : wx.cell? ⟨Bs, 0, none⟩ = some (.int .i64 D)
  s1 : wx.cell? ⟨Bs, 1, none⟩ = some (.map (some mb))
  own : wx.ownsMap Tryz.prog 3 (plainElem (H := Unit) Tryz.prog 3) mb 0 (mapOf [])
  hB : w3.heap.size ≤ Bs
  hm : w3.heap.size ≤ mb
theorem sumBox_late {w3 w4 : World} {D : Int} (ho : w4.ownsMap Tryz.prog 3 (plainElem (H := Unit) Tryz.prog 3) (w3.heap.size + 1) 0 (.map [])) (hc : Below w3.heap.size w3 w4) : SumBox w3 (w4.alloc (.cells #[.int .i64 D, .map (some (w3.heap.size + 1))] 102)) w4.heap.size (w3.heap.size + 1) D :=
  ⟨below_alloc hc _, by rw [World.cell?_alloc_at _ _ _ _ rfl]; rfl, by rw [World.cell?_alloc_at _ _ _ _ rfl]; rfl, ownsMap_later ho (Below.heap_alloc _ _ _ ho.lt), hc.size, by omega⟩
theorem sumBox_soon {w3 w4 : World} {D : Int} {u v : Value} (ho : w4.ownsMap Tryz.prog 3 (plainElem (H := Unit) Tryz.prog 3) (w3.heap.size + 1 + 1) 0 (.map [])) (hc : Below w3.heap.size w3 w4) (h0 : w4.cell? ⟨w3.heap.size, 0, none⟩ = some u) (h1 : w4.cell? ⟨w3.heap.size, 1, none⟩ = some v) :
    SumBox w3 ((w4.setCell ⟨w3.heap.size, 0, none⟩ (.int .i64 D)).setCell ⟨w3.heap.size, 1, none⟩ (.map (some (w3.heap.size + 1 + 1)))) w3.heap.size (w3.heap.size + 1 + 1) D := by
  refine ⟨below_set hc _ _, ?_, ?_, ownsMap_later ho ?_, Nat.le_refl _, by omega⟩
  · rw [World.cell?_setCell_other _ _ _ _ (by simp)]; exact World.cell?_setCell_same _ _ _ h0
  · exact World.cell?_setCell_same _ _ _ (by rw [World.cell?_setCell_other _ _ _ _ (by simp)]; exact h1)
  · rw [Below.heap_setCell _ _ _ _ (by show w3.heap.size + 1 + 1 ≠ w3.heap.size; omega), Below.heap_setCell _ _ _ _ (by show w3.heap.size + 1 + 1 ≠ w3.heap.size; omega)]
theorem grown_below {w3 W W' : World} {mb : Nat} (h : Below w3.heap.size w3 W) (hg : W.grownBy W' (some mb)) (hm : w3.heap.size ≤ mb) : Below w3.heap.size w3 W' :=
  h.grown hg h.size (fun k e => by cases e; exact hm)

end Go.Proofs.YtgellgobgiolnaaGreatDoor

/- (sum).told in general: a form, or ErrBound. -/
namespace Go.Proofs.YtgellgobgiolnaaGreatDoor
open Go.RowKit Go.Maps Go.Sort Go.Shelf

theorem all_next {cf : Int → Int} {G : Nat} {ks : List Int} {k : Nat} {p : Int} (ht : ks.take (k + 1) = ks.take k ++ [p]) (h : ∀ x ∈ ks.take k, (quo cf G x).natAbs ≤ 1099511627776) (hp : (quo cf G p).natAbs ≤ 1099511627776) : Hid (∀ x ∈ ks.take (k + 1), (quo cf G x).natAbs ≤ 1099511627776) := fun x hx => by
  rw [ht, List.mem_append] at hx
  rcases hx with hx | hx
  · exact h x hx
  · rw [List.mem_singleton] at hx; rw [hx]; exact hp

set_option maxRecDepth 100000 in
set_option maxHeartbeats 2000000 in
/-- told: a sum that has a form, or ErrBound. -/
theorem told_any (den : Int) (b nn : Nat) (D : DataW Unit) (cf : Int → Int) (ks : List Int) (w : World) (hown : w.ownsMap Tryz.prog 3 (plainElem Tryz.prog 3) b nn D)
    (hat : ∀ x, D.atKey (.int .i64 x) (.lit (.int .i64 0)) = .lit (.int .i64 (cf x))) (hks : ∀ ss : List Int, ss.Perm (intKeys D) → ss.mergeSort (fun x y => decide (x ≤ y)) = ks) (hsz : Maps.size D ≤ 100000) (hlen : ks.length ≤ 100000)
    (hwf : ∀ x ∈ ks, (Lit.int .i64 x).wf = true) (hd1 : 1 ≤ den) (hd2 : den ≤ 1000000000000) (hcf : ∀ x, -2305843009213693952 ≤ cf x ∧ cf x ≤ 2305843009213693952)
    (G : Nat) (hG : gcdL den cf ks ks.length = G) (a : Nat → Addr) (hE : Errs w a) (fit : Bool) (hfit : fit = true ↔ (den / (G : Int) ≤ 1000000 ∧ ∀ x ∈ ks, (quo cf G x).natAbs ≤ 1099511627776)) :
    Calls Tryz.prog 63 #[.agg #[.int .i64 den, .map (some b)]] w fun e w' => ((fit = true ∧ ∃ v, e = .returned (.tuple #[.agg #[.int .i64 (den / (G : Int)), v], .nilIface]) ∧ w'.ownsRow w.heap.size 65 2 v (countOf (quo cf G) ks) (termsOf (quo cf G) ks)) ∨ (fit = false ∧ e = .returned (.tuple #[.agg #[.int .i64 0, .slice none 0 0], .iface 184 (.pointer (some (a 1)))]))) ∧ Below w.heap.size w w' := by
  have hbl := hown.lt
  have HK : Hid (∀ ss : List Int, ss.Perm (intKeys D) → ss.mergeSort (fun x y => decide (x ≤ y)) = ks) := hks
  have HAT : Hid (∀ x, D.atKey (.int .i64 x) (.lit (.int .i64 0)) = .lit (.int .i64 (cf x))) := hat
  have HWF : Hid (∀ x ∈ ks, (Lit.int .i64 x).wf = true) := hwf
  have HCF : Hid (∀ x, -2305843009213693952 ≤ cf x ∧ cf x ≤ 2305843009213693952) := hcf
  have HG : Hid (gcdL den cf ks ks.length = G) := hG
  have HFIT := Hid.mk' hfit
  have HERR := Hid.mk' hE
  clear hks hat hwf hcf hG hfit hE
  have hb3 : Below w.heap.size w (((w.alloc (.cells #[.int .i64 den, .map (some b)] 102)).alloc (.cells #[.int .i64 0, .slice none 0 0] 27)).alloc (.cells #[.map (some b)] 100)) := (((Below.refl _ _).alloc (Nat.le_refl _) _).alloc (by simp) _).alloc (by simp; omega) _
  have hk := maps_keys (some b) ((w.alloc (.cells #[.int .i64 den, .map (some b)] 102)).alloc (.cells #[.int .i64 0, .slice none 0 0] 27))
  have hs := sorted_keys (w.heap.size + 1 + 1) b nn D _ (((w.alloc (.cells #[.int .i64 den, .map (some b)] 102)).alloc (.cells #[.int .i64 0, .slice none 0 0] 27)).alloc (.cells #[.map (some b)] 100)) (by rw [World.cell?_alloc_at _ _ _ _ (by simp)]; rfl) (by simp) (ownsMap_later hown (hb3.block b hbl)) (by unfold maxLen; omega) (by omega)
  go_enter Tryz.func63, Tryz.ntmps63
  go_wp2_with fail
  refine hk.mono ?_
  clear hk
  rintro e w1 ⟨rfl, rfl⟩
  go_wp2_with fail
  refine hs.mono ?_
  clear hs
  rintro e w2 ⟨v, ss, rfl, hperm, hrow, hnil, hb4⟩
  have hms := HK.out ss hperm
  rw [hms] at hrow
  have hsl : ss.length = ks.length := by rw [← hms]; simp
  rw [hsl] at hrow
  rcases hrow.2 with ⟨rfl, hz⟩ | ⟨g, cap, cur, rfl, hbase, hgb, r1, r2, r3, r4⟩
  · obtain rfl : ks = [] := List.eq_nil_of_length_eq_zero hz
    have hs4 := hb4.size
    simp at hs4
    have hbA := hb3.trans (hb4.mono (show w.heap.size ≤ _ by simp; omega))
    have x0 : w2.cell? ⟨w.heap.size, 0, none⟩ = some (.int .i64 den) := by
      rw [hb4.cell (p := ⟨w.heap.size, 0, none⟩) (by simp; omega), World.cell?_alloc_lt _ _ ⟨w.heap.size, 0, none⟩ (by simp; omega), World.cell?_alloc_lt _ _ ⟨w.heap.size, 0, none⟩ (by simp), World.cell?_alloc_at _ _ _ _ rfl]; rfl
    have z0 : w2.cell? ⟨w.heap.size + 1, 0, none⟩ = some (.int .i64 0) := by
      rw [hb4.cell (p := ⟨w.heap.size + 1, 0, none⟩) (by simp), World.cell?_alloc_lt _ _ ⟨w.heap.size + 1, 0, none⟩ (by simp), World.cell?_alloc_at _ _ _ _ (by simp)]; rfl
    have z1 : w2.cell? ⟨w.heap.size + 1, 1, none⟩ = some (.slice none 0 0) := by
      rw [hb4.cell (p := ⟨w.heap.size + 1, 1, none⟩) (by simp), World.cell?_alloc_lt _ _ ⟨w.heap.size + 1, 1, none⟩ (by simp), World.cell?_alloc_at _ _ _ _ (by simp)]; rfl
    have f0 : w2.frozen? ⟨w.heap.size + 1, 0, none⟩ = false := by
      rw [hb4.frozen (p := ⟨w.heap.size + 1, 0, none⟩) (by simp), World.frozen?_alloc_old _ _ ⟨w.heap.size + 1, 0, none⟩ (by simp)]; exact frozen_new (by simp)
    have f1 : w2.frozen? ⟨w.heap.size + 1, 1, none⟩ = false := by
      rw [hb4.frozen (p := ⟨w.heap.size + 1, 1, none⟩) (by simp), World.frozen?_alloc_old _ _ ⟨w.heap.size + 1, 1, none⟩ (by simp)]; exact frozen_new (by simp)
    obtain rfl : den.natAbs = G := HG.out
    have hG1 : (den.natAbs : Int) = den := by omega
    have hdd : den / den = 1 := Int.ediv_self (by omega)
    have HDD : Hid (den / (den.natAbs : Int) = 1) := by show _ = _; rw [hG1, hdd]
    have HBA : Hid (Below w.heap.size w w2) := hbA
    have hft : fit = true := HFIT.out.2 ⟨by rw [hG1, hdd]; omega, fun x hx => by cases hx⟩
    have HFT := Hid.mk' hft
    clear hrow hnil hb4 hb3 hbA HG hG1 hft
    have y0 : ∀ X, (w2.alloc X).cell? ⟨w.heap.size + 1, 0, none⟩ = some (.int .i64 0) := fun X => by rw [World.cell?_alloc_lt _ _ ⟨w.heap.size + 1, 0, none⟩ (by show w.heap.size + 1 < _; omega)]; exact z0
    have y1 : ∀ X, (w2.alloc X).cell? ⟨w.heap.size + 1, 1, none⟩ = some (.slice none 0 0) := fun X => by rw [World.cell?_alloc_lt _ _ ⟨w.heap.size + 1, 1, none⟩ (by show w.heap.size + 1 < _; omega)]; exact z1
    have g0 : ∀ X, (w2.alloc X).frozen? ⟨w.heap.size + 1, 0, none⟩ = false := fun X => by rw [World.frozen?_alloc_old _ _ ⟨w.heap.size + 1, 0, none⟩ (by show w.heap.size + 1 ≠ _; omega)]; exact f0
    have g1 : ∀ X, (w2.alloc X).frozen? ⟨w.heap.size + 1, 1, none⟩ = false := fun X => by rw [World.frozen?_alloc_old _ _ ⟨w.heap.size + 1, 1, none⟩ (by show w.heap.size + 1 ≠ _; omega)]; exact f1
    go_wp2_with fail
    refine wp_loop_rounds 1 ?_
    rw [rounds_succ]
    go_wp2_with fail
    refine wp_loop_rounds 1 ?_
    rw [rounds_succ]
    go_wp2_with fail
    refine bodyPost_ret (v := .tuple #[.agg #[.int .i64 1, .slice none 0 0], .nilIface]) (by simp [results, Tryz.results63, go_sem, y0, y1]) rfl ⟨Or.inl ⟨HFT.out, .slice none 0 0, by rw [HDD.out], ⟨rfl, Or.inl ⟨rfl, rfl⟩⟩⟩, ?_⟩
    exact ((HBA.out.alloc HBA.out.size _).setCell (by simp) _).setCell (by simp) _
  · have hI : InTold w w2 den b nn D g ks := by
      have hs4 := hb4.size
      simp at hs4
      refine ⟨?_, ?_, ?_, ?_, ?_, ?_, ?_, hb3.trans (hb4.mono (by simp; omega)), by omega, ?_⟩
      · rw [hb4.cell (p := ⟨w.heap.size, 0, none⟩) (by simp; omega), World.cell?_alloc_lt _ _ ⟨w.heap.size, 0, none⟩ (by simp; omega), World.cell?_alloc_lt _ _ ⟨w.heap.size, 0, none⟩ (by simp), World.cell?_alloc_at _ _ _ _ rfl]; rfl
      · rw [hb4.cell (p := ⟨w.heap.size, 1, none⟩) (by simp; omega), World.cell?_alloc_lt _ _ ⟨w.heap.size, 1, none⟩ (by simp; omega), World.cell?_alloc_lt _ _ ⟨w.heap.size, 1, none⟩ (by simp), World.cell?_alloc_at _ _ _ _ rfl]; rfl
      · rw [hb4.cell (p := ⟨w.heap.size + 1, 0, none⟩) (by simp), World.cell?_alloc_lt _ _ ⟨w.heap.size + 1, 0, none⟩ (by simp), World.cell?_alloc_at _ _ _ _ (by simp)]; rfl
      · rw [hb4.cell (p := ⟨w.heap.size + 1, 1, none⟩) (by simp), World.cell?_alloc_lt _ _ ⟨w.heap.size + 1, 1, none⟩ (by simp), World.cell?_alloc_at _ _ _ _ (by simp)]; rfl
      · rw [hb4.frozen (p := ⟨w.heap.size + 1, 0, none⟩) (by simp), World.frozen?_alloc_old _ _ ⟨w.heap.size + 1, 0, none⟩ (by simp)]; exact frozen_new (by simp)
      · rw [hb4.frozen (p := ⟨w.heap.size + 1, 1, none⟩) (by simp), World.frozen?_alloc_old _ _ ⟨w.heap.size + 1, 1, none⟩ (by simp)]; exact frozen_new (by simp)
      · exact ownsMap_later hown ((hb4.block b (by simp; omega)).trans (hb3.block b hbl))
      · intro i hi
        have : w2.cell? ⟨g, i, none⟩ = cur[i]? := by simp [World.cell?, hgb]
        have h5 : cur.toList[i]? = (ks.map encZ)[i]? := by rw [← r4, List.getElem?_take_of_lt (by omega)]
        rw [this, ← Array.getElem?_toList, h5]
        simp [encZ, hi]
    have HI : Hid (InTold w w2 den b nn D g ks) := hI
    clear hI hrow hnil hgb r4 r3 hb4 hb3
    have x0 := HI.out.box0
    go_wp2_with fail
    clear x0
    go_loopw [5, 20] (fun t i wr => ∃ k : Nat, k ≤ ks.length ∧ t = .int .i64 (gcdL den cf ks k) ∧ i = .int .i64 k ∧ Hid (InTold w wr den b nn D g ks)) (fun _ i _ => ks.length - (intOf i).toNat)
    case atStart => exact ⟨0, Nat.zero_le _, by show _ = Value.int IntKind.i64 ((den.natAbs : Nat) : Int); congr 1; omega, rfl, HI⟩
    case round =>
      clear HI
      obtain ⟨k, hk, rfl, rfl, HI⟩ := hrel
      have hgp := gcdTo_pos den (fun i => cf (ks.getD i 0)) hd1 k
      have HGP : Hid (1 ≤ gcdL den cf ks k ∧ gcdL den cf ks k ≤ den.natAbs) := hgp
      clear hgp
      have hg1 : 1 ≤ gcdL den cf ks k := HGP.out.1
      have hg2 : (gcdL den cf ks k : Int) ≤ 1000000000000 := by have := HGP.out.2; omega
      have x0 := HI.out.box0
      have x1 := HI.out.box1
      by_cases hlt : k < ks.length
      · have hck := HI.out.keys k hlt
        have hc1 := (HCF.out (ks.getD k 0)).1
        have hc2 := (HCF.out (ks.getD k 0)).2
        have hmem : ks.getD k 0 ∈ ks := by
          rw [List.getD_eq_getElem?_getD, List.getElem?_eq_getElem hlt]; exact List.getElem_mem hlt
        have hkey : keyOf Tryz.prog 3 (.int .i64 (ks.getD k 0)) = some (.int .i64 (ks.getD k 0)) := keyOf_int_mk Tryz.underlying3 (HWF.out _ hmem)
        have HKEY : Hid (keyOf Tryz.prog 3 (.int .i64 (ks.getD k 0)) = some (.int .i64 (ks.getD k 0))) := hkey
        obtain ⟨p, hp⟩ : ∃ p, p = ks.getD k 0 := ⟨_, rfl⟩
        have HP : Hid (p = ks.getD k 0) := hp
        rw [← hp] at hck hc1 hc2 HKEY
        clear hkey hmem hp
        go_wp2_with (first
          | (at_lookup; go_must (refine wpList_lookup_own_int _ rfl _ _ 100 rfl 3 3 .i64 Tryz.lawInt Tryz.underlying100 Tryz.underlying3 (Tryz.zeroInt _) b nn D rfl HI.out.own _ _ rfl HKEY.out ?_; intro c hat hwc; have hcc := coef_of HAT.out hat; clear hat hwc; subst hcc))
          | (go_at_call 65; refine (GCD_any _ _ _ (by omega) (by omega) (by omega) (by omega)).mono ?_; rintro e w' ⟨rfl, mm, rfl⟩))
        exact ⟨⟨k + 1, by omega, by show _ = Value.int IntKind.i64 ((Int.gcd (gcdL den cf ks k : Int) (cf (ks.getD k 0)) : Nat) : Int); rw [← HP.out], by go_num, HI.out.drewN mm⟩, by simp [intOf]; omega⟩
      · obtain rfl : k = ks.length := by omega
        have HG' := HG.out
        rw [HG'] at hg1 hg2 HGP ⊢
        clear HG'
        obtain ⟨i0, hi, hz0, hz1, hz2⟩ := info_parts Tryz.infoTerm
        have HINF : Hid (Tryz.prog.info? 65 = some i0 ∧ i0.zero = some (.agg #[.int .i64 0, .int .i64 0]) ∧ i0.size = 2 ∧ i0.bytes = 16) := ⟨hi, hz0, hz1, hz2⟩
        clear hi hz0 hz1 hz2
        have HS0 : Hid (InOut wr (wr.alloc (.cells #[.int .i64 (den / (G : Int)), .slice none 0 0] 27)) (den / (G : Int)) (.slice none 0 0) 0 []) := InOut.start wr _
        have hdq0 : 0 ≤ den / (G : Int) := Int.ediv_nonneg (by omega) (by omega)
        have HIN : Hid (InTold w wr den b nn D g ks) := HI.out
        clear HI
        by_cases hdq : den / (G : Int) ≤ 1000000
        case neg =>
          have hff : fit = false := not_true_of HFIT.out (fun h => hdq h.1)
          have hdq2 : den / (G : Int) ≤ 1000000000000 := Int.le_trans (Int.ediv_le_self _ (by omega)) hd2
          have hdq3 : 1000000 < den / (G : Int) := by omega
          have hbg := HIN.out.big
          have y0 : ∀ X, (wr.alloc X).cell? ⟨w.heap.size + 1, 0, none⟩ = some (.int .i64 0) := fun X => by rw [World.cell?_alloc_lt _ _ ⟨w.heap.size + 1, 0, none⟩ (cell_lt HIN.out.res0)]; exact HIN.out.res0
          have y1 : ∀ X, (wr.alloc X).cell? ⟨w.heap.size + 1, 1, none⟩ = some (.slice none 0 0) := fun X => by rw [World.cell?_alloc_lt _ _ ⟨w.heap.size + 1, 1, none⟩ (cell_lt HIN.out.res1)]; exact HIN.out.res1
          have g0 : ∀ X, (wr.alloc X).frozen? ⟨w.heap.size + 1, 0, none⟩ = false := fun X => by rw [World.frozen?_alloc_old _ _ ⟨w.heap.size + 1, 0, none⟩ (Nat.ne_of_lt (cell_lt HIN.out.res0))]; exact HIN.out.fr0
          have g1 : ∀ X, (wr.alloc X).frozen? ⟨w.heap.size + 1, 1, none⟩ = false := fun X => by rw [World.frozen?_alloc_old _ _ ⟨w.heap.size + 1, 1, none⟩ (Nat.ne_of_lt (cell_lt HIN.out.res1))]; exact HIN.out.fr1
          have ye : ∀ X, (wr.alloc X).cell? ⟨1, 0, none⟩ = some (.iface 184 (.pointer (some (a 1)))) := fun X => (HERR.out.below (HIN.out.below.alloc HIN.out.below.size X)).c1
          clear hdq
          go_wp2_with fail
          go_region
          go_wp2_with fail
          refine bodyPost_ret (v := .tuple #[.agg #[.int .i64 0, .slice none 0 0], .iface 184 (.pointer (some (a 1)))]) (by simp [results, Tryz.results63, go_sem, y0, y1]) rfl ⟨Or.inr ⟨hff, rfl⟩, ?_⟩
          exact (((HIN.out.below.alloc HIN.out.below.size _).setCell (by simp) _).setCell (by simp) _).drew
        go_wp2_with fail
        clear x0 x1
        obtain ⟨w1, hw1⟩ : ∃ w1, w1 = wr := ⟨_, rfl⟩
        rw [← hw1] at HS0 HIN ⊢
        clear hw1
        go_loopw [43] (fun i wr => ∃ (k : Nat) (sv : Value), k ≤ ks.length ∧ i = .int .i64 k ∧ Hid (∀ x ∈ ks.take k, (quo cf G x).natAbs ≤ 1099511627776) ∧ Hid (InOut w1 wr (den / (G : Int)) sv (countOf (quo cf G) (ks.take k)) (termsOf (quo cf G) (ks.take k)))) (fun i _ => ks.length - (intOf i).toNat)
        case atStart => exact ⟨0, .slice none 0 0, Nat.zero_le _, rfl, (fun x hx => by simp at hx), HS0.out⟩
        case round =>
          clear HS0
          obtain ⟨k, sv, hk, rfl, HAL, HO⟩ := hrel
          have HI : Hid (InTold w wr den b nn D g ks) := HIN.out.later HO.out.keep
          have x0 := HI.out.box0
          have x1 := HI.out.box1
          have y0 := HO.out.o0
          have y1 := HO.out.o1
          have yf := HO.out.fz
          by_cases hlt : k < ks.length
          · have hck := HI.out.keys k hlt
            have hmem : ks.getD k 0 ∈ ks := by
              rw [List.getD_eq_getElem?_getD, List.getElem?_eq_getElem hlt]; exact List.getElem_mem hlt
            have HKEY : Hid (keyOf Tryz.prog 3 (.int .i64 (ks.getD k 0)) = some (.int .i64 (ks.getD k 0))) := keyOf_int_mk Tryz.underlying3 (HWF.out _ hmem)
            have hc1 := (HCF.out (ks.getD k 0)).1
            have hc2 := (HCF.out (ks.getD k 0)).2
            obtain ⟨p, hp⟩ : ∃ p, p = ks.getD k 0 := ⟨_, rfl⟩
            have HP : Hid (p = ks.getD k 0) := hp
            rw [← hp] at hck HKEY hc1 hc2
            have HMEM : Hid (p ∈ ks) := by rw [← hp] at hmem; exact hmem
            clear hmem hp
            obtain ⟨q, hqq⟩ : ∃ q, q = quo cf G p := ⟨_, rfl⟩
            have HQQ : Hid (q = quo cf G p) := hqq
            have hqe : (cf p).tdiv (G : Int) = q := hqq.symm
            clear hqq
            have htake : Hid (ks.take (k + 1) = ks.take k ++ [p]) := by
              show _ = _
              rw [List.take_succ_eq_append_getElem hlt, HP.out, List.getD_eq_getElem?_getD, List.getElem?_eq_getElem hlt]
              rfl
            by_cases hqb : q.natAbs ≤ 1099511627776
            case neg =>
              have hff : fit = false := not_true_of HFIT.out (fun h => hqb (by have := h.2 p HMEM.out; rwa [← HQQ.out] at this))
              have hqs : q.natAbs ≤ (cf p).natAbs := by rw [← hqe]; exact Int.natAbs_tdiv_le_natAbs _ _
              have hqB : (1099511627776 : Int) < (q.natAbs : Int) := by omega
              have z0 := HI.out.res0
              have z1 := HI.out.res1
              have f0 := HI.out.fr0
              have f1 := HI.out.fr1
              have ye := (HERR.out.below HI.out.below).c1
              clear hqb
              go_wp2_with (first
                | (at_lookup; go_must (refine wpList_lookup_own_int _ rfl _ _ 100 rfl 3 3 .i64 Tryz.lawInt Tryz.underlying100 Tryz.underlying3 (Tryz.zeroInt _) b nn D rfl HI.out.own _ _ rfl HKEY.out ?_; intro c hat hwc; have hcc := coef_of HAT.out hat; clear hat hwc; subst hcc))
                | (go_at_call 40; refine (size_any _ _ (by omega) (by omega)).mono ?_; rintro e w' ⟨rfl, hw'⟩; rw [hw']; clear hw'))
              go_region
              go_wp2_with fail
              refine bodyPost_ret (v := .tuple #[.agg #[.int .i64 0, .slice none 0 0], .iface 184 (.pointer (some (a 1)))]) (by simp [results, Tryz.results63, go_sem, z0, z1]) rfl ⟨Or.inr ⟨hff, rfl⟩, ?_⟩
              exact ((HI.out.below.setCell (by simp) _).setCell (by simp) _).drew
            by_cases hq0 : q = 0
            · subst hq0
              go_wp2_with (first
                | (at_lookup; go_must (refine wpList_lookup_own_int _ rfl _ _ 100 rfl 3 3 .i64 Tryz.lawInt Tryz.underlying100 Tryz.underlying3 (Tryz.zeroInt _) b nn D rfl HI.out.own _ _ rfl HKEY.out ?_; intro c hat hwc; have hcc := coef_of HAT.out hat; clear hat hwc; subst hcc))
                | (go_at_call 40; refine (size_any _ _ (by omega) (by omega)).mono ?_; rintro e w' ⟨rfl, hw'⟩; rw [hw']; clear hw'))
              exact ⟨⟨k + 1, sv, by omega, by go_num, all_next htake.out HAL.out (by rw [← HQQ.out]; omega), by
                show InOut _ _ _ _ _ _
                rw [htake.out, termsOf_append, countOf_append]
                have h0 : quo cf G p = 0 := HQQ.out.symm
                simpa [termsOf, countOf, h0] using HO.out⟩, by simp [intOf]; omega⟩
            · have hqn : (q != 0) = true := by simp [hq0]
              have HQ0 : Hid (¬ q = 0) := hq0
              clear hq0
              have hcn := countOf_le (quo cf G) (ks.take k)
              have hcn2 : countOf (quo cf G) (ks.take k) ≤ 100000 := by have := List.length_take_le k ks; omega
              have HSZ : Hid (w1.heap.size < wr.heap.size) := cell_lt HO.out.o0
              have hsz := HSZ.out
              go_wp2_with (first
                | (at_lookup; go_must (refine wpList_lookup_own_int _ rfl _ _ 100 rfl 3 3 .i64 Tryz.lawInt Tryz.underlying100 Tryz.underlying3 (Tryz.zeroInt _) b nn D rfl HI.out.own _ _ rfl HKEY.out ?_; intro c hat hwc; have hcc := coef_of HAT.out hat; clear hat hwc; subst hcc))
                | (go_at_call 40; refine (size_any _ _ (by omega) (by omega)).mono ?_; rintro e w' ⟨rfl, hw'⟩; rw [hw']; clear hw')
                | (at_builtin; go_must (refine wpList_append_lies _ rfl _ _ _ rfl (w1.heap.size + 1) 65 i0 _ 2 16 Tryz.underlying25 HINF.out.1 HINF.out.2.1 HINF.out.2.2.1 HINF.out.2.2.2 rfl (by omega) sv _ _ rfl (HO.out.row.alloc _) ⟨wr.heap.size, 0, none⟩ 1 1 [.int .i64 p, .int .i64 q] rfl rfl (two_new _ _ _ _) (by simp [Value.oneCell']) (by omega) (by unfold maxLen; omega) (by omega) (by simp; omega) _ rfl ?_; intro g' cap' w3 hown3 hgrow3 hat3 hlt3; obtain ⟨z1, z2, HP3⟩ := HO.out.pushed hgrow3 hown3; have HPU := Hid.mk' HP3; clear hown3 hgrow3 hat3 HP3)))
              exact ⟨⟨k + 1, _, by omega, by go_num, all_next htake.out HAL.out (by rw [← HQQ.out]; omega), by
                show InOut _ _ _ _ _ _
                rw [htake.out, termsOf_append, countOf_append]
                have h0 : quo cf G p = q := HQQ.out.symm
                have h1 : ¬ q = 0 := HQ0.out
                simpa [termsOf, countOf, h0, h1] using HPU.out⟩, by simp [intOf]; omega⟩
          · obtain rfl : k = ks.length := by omega
            have z0 := HI.out.res0
            have z1 := HI.out.res1
            have f0 := HI.out.fr0
            have f1 := HI.out.fr1
            have hlt1 : w.heap.size + 1 < w1.heap.size := by have := HIN.out.big; omega
            have hfull : ks.take ks.length = ks := List.take_length
            have HOO : Hid (InOut w1 wr (den / (G : Int)) sv (countOf (quo cf G) ks) (termsOf (quo cf G) ks)) := by have := HO.out; rwa [hfull] at this
            have HFT : Hid (fit = true) := HFIT.out.2 ⟨hdq, by have := HAL.out; rwa [hfull] at this⟩
            clear hfull HO
            obtain ⟨ad, n', c', rfl⟩ : ∃ ad n' c', sv = .slice ad n' c' := by
              rcases HOO.out.row.2 with ⟨rfl, _⟩ | ⟨gg, cap', cur', rfl, _⟩
              · exact ⟨_, _, _, rfl⟩
              · exact ⟨_, _, _, rfl⟩
            go_wp2_with fail
            refine bodyPost_ret (v := .tuple #[.agg #[.int .i64 (den / (G : Int)), .slice ad n' c'], .nilIface]) (by simp [results, Tryz.results63, go_sem, z0, z1]) rfl ⟨Or.inl ⟨HFT.out, .slice ad n' c', rfl, ?_⟩, ?_⟩
            · have h1 := ownsRow_setCell_below HOO.out.row (a := ⟨w.heap.size + 1, 0, none⟩) (by show w.heap.size + 1 < _; omega) (.int .i64 (den / (G : Int)))
              have h2 := ownsRow_setCell_below h1 (a := ⟨w.heap.size + 1, 1, none⟩) (by show w.heap.size + 1 < _; omega) (.slice ad n' c')
              exact row_base h2 (by omega)
            · exact (HI.out.below.setCell (by simp) _).setCell (by simp) _
end Go.Proofs.YtgellgobgiolnaaGreatDoor

/- logs.Add in general: ErrShape, ErrBound, or the sum in form. -/
namespace Go.Proofs.YtgellgobgiolnaaGreatDoor
open Go.RowKit Go.Maps

theorem some_bool (P : Prop) : ∃ b : Bool, b = true ↔ P := by
  by_cases h : P
  · exact ⟨true, ⟨fun _ => h, fun _ => rfl⟩⟩
  · exact ⟨false, ⟨(fun e => by cases e), (fun e => absurd e h)⟩⟩
/-- Has a sum a form? -/
def Fits (den : Int) (G : Nat) (l : List (Int × Int)) : Prop := den / (G : Int) ≤ 1000000 ∧ ∀ e ∈ l, (e.2.tdiv (G : Int)).natAbs ≤ 1099511627776
/-- told by lists, in general. -/
theorem told_list_any (den : Int) (b nn : Nat) (l : List (Int × Int)) (w : World) (hown : w.ownsMap Tryz.prog 3 (plainElem (H := Unit) Tryz.prog 3) b nn (mapOf l)) (hr : Rising l) (hk : ∀ e ∈ l, 2 ≤ e.1 ∧ e.1 ≤ 1000000) (hlen : l.length ≤ 100000)
    (hb : ∀ x, -2305843009213693952 ≤ atL l x ∧ atL l x ≤ 2305843009213693952) (hd1 : 1 ≤ den) (hd2 : den ≤ 1000000000000) (G : Nat) (hG : gcdL den (atL l) (l.map Prod.fst) l.length = G) (a : Nat → Addr) (hE : Errs w a) (fit : Bool) (hfit : fit = true ↔ Fits den G l) :
    Calls Tryz.prog 63 #[.agg #[.int .i64 den, .map (some b)]] w fun e w' => ((fit = true ∧ ∃ v, e = .returned (.tuple #[.agg #[.int .i64 (den / (G : Int)), v], .nilIface]) ∧ w'.ownsRow w.heap.size 65 2 v (overL G l).length (termCells (pOf (overL G l)) (cOf (overL G l)) (overL G l).length)) ∨ (fit = false ∧ e = .returned (.tuple #[.agg #[.int .i64 0, .slice none 0 0], .iface 184 (.pointer (some (a 1)))]))) ∧ Below w.heap.size w w' := by
  have hcf : ∀ e ∈ l, atL l e.1 = e.2 := fun e he => atL_mem hr he
  have ht := terms_flat (atL l) G l hcf
  have hfit' : fit = true ↔ (den / (G : Int) ≤ 1000000 ∧ ∀ x ∈ l.map Prod.fst, (quo (atL l) G x).natAbs ≤ 1099511627776) := hfit.trans ⟨fun h => ⟨h.1, fun x hx => by obtain ⟨e, he, rfl⟩ := List.mem_map.1 hx; unfold quo; rw [hcf e he]; exact h.2 e he⟩, fun h => ⟨h.1, fun e he => by have := h.2 e.1 (List.mem_map.2 ⟨e, he, rfl⟩); unfold quo at this; rw [hcf e he] at this; exact this⟩⟩
  have := told_any den b nn (mapOf l) (atL l) (l.map Prod.fst) w hown (at_map l) (sort_keys hr) (by rw [size_map]; exact hlen) (by rw [List.length_map]; exact hlen)
    (fun x hx => by obtain ⟨e, he, rfl⟩ := List.mem_map.1 hx; have := hk e he; exact wf_int (by omega)) hd1 hd2 hb G (by rw [List.length_map]; exact hG) a hE fit hfit'
  rw [ht.1, ht.2, flat_cells] at this
  exact this

/-- Two boxes and a result. -/
theorem three_cells (w : World) (x0 x1 y0 y1 r0 r1 : Value) (t : TypeId) :
    ((((w.alloc (.cells #[x0, x1] t)).alloc (.cells #[y0, y1] t)).alloc (.cells #[r0, r1] t)).cell? ⟨w.heap.size, 0, none⟩ = some x0 ∧ (((w.alloc (.cells #[x0, x1] t)).alloc (.cells #[y0, y1] t)).alloc (.cells #[r0, r1] t)).cell? ⟨w.heap.size, 1, none⟩ = some x1) ∧ ((((w.alloc (.cells #[x0, x1] t)).alloc (.cells #[y0, y1] t)).alloc (.cells #[r0, r1] t)).cell? ⟨w.heap.size + 1, 0, none⟩ = some y0 ∧ (((w.alloc (.cells #[x0, x1] t)).alloc (.cells #[y0, y1] t)).alloc (.cells #[r0, r1] t)).cell? ⟨w.heap.size + 1, 1, none⟩ = some y1) ∧ ((((w.alloc (.cells #[x0, x1] t)).alloc (.cells #[y0, y1] t)).alloc (.cells #[r0, r1] t)).cell? ⟨w.heap.size + 1 + 1, 0, none⟩ = some r0 ∧ (((w.alloc (.cells #[x0, x1] t)).alloc (.cells #[y0, y1] t)).alloc (.cells #[r0, r1] t)).cell? ⟨w.heap.size + 1 + 1, 1, none⟩ = some r1) ∧ (((w.alloc (.cells #[x0, x1] t)).alloc (.cells #[y0, y1] t)).alloc (.cells #[r0, r1] t)).frozen? ⟨w.heap.size + 1 + 1, 0, none⟩ = false ∧ (((w.alloc (.cells #[x0, x1] t)).alloc (.cells #[y0, y1] t)).alloc (.cells #[r0, r1] t)).frozen? ⟨w.heap.size + 1 + 1, 1, none⟩ = false := by
  refine ⟨⟨?_, ?_⟩, ⟨?_, ?_⟩, ⟨?_, ?_⟩, frozen_new (by simp), frozen_new (by simp)⟩
  · rw [World.cell?_alloc_lt _ _ ⟨w.heap.size, 0, none⟩ (by simp; omega), World.cell?_alloc_lt _ _ ⟨w.heap.size, 0, none⟩ (by simp), World.cell?_alloc_at _ _ _ _ rfl]; rfl
  · rw [World.cell?_alloc_lt _ _ ⟨w.heap.size, 1, none⟩ (by simp; omega), World.cell?_alloc_lt _ _ ⟨w.heap.size, 1, none⟩ (by simp), World.cell?_alloc_at _ _ _ _ rfl]; rfl
  · rw [World.cell?_alloc_lt _ _ ⟨w.heap.size + 1, 0, none⟩ (by simp), World.cell?_alloc_at _ _ _ _ (by simp)]; rfl
  · rw [World.cell?_alloc_lt _ _ ⟨w.heap.size + 1, 1, none⟩ (by simp), World.cell?_alloc_at _ _ _ _ (by simp)]; rfl
  · rw [World.cell?_alloc_at _ _ _ _ (by simp)]; rfl
  · rw [World.cell?_alloc_at _ _ _ _ (by simp)]; rfl

end Go.Proofs.YtgellgobgiolnaaGreatDoor

/- Two lists that tell the same; the document's sum of two in form. -/
namespace Go.Proofs.YtgellgobgiolnaaGreatDoor
open Go.RowKit

def nzL (l : List (Int × Int)) : List (Int × Int) := l.filter fun e => !decide (e.2 = 0)
theorem nz_rise {l : List (Int × Int)} (h : Rising l) : Rising (nzL l) := List.Pairwise.filter _ h
theorem nz_nz {l : List (Int × Int)} : ∀ e ∈ nzL l, e.2 ≠ 0 := fun e he => by
  have := (List.mem_filter.1 he).2
  simpa using this
theorem nz_at {l : List (Int × Int)} (h : Rising l) (x : Int) : atL (nzL l) x = atL l x := by
  by_cases h0 : atL l x = 0
  · rw [h0]
    by_cases h1 : atL (nzL l) x = 0
    · exact h1
    · have h2 := (List.mem_filter.1 (atL_some h1)).1
      have h3 := atL_mem h h2
      simp only at h3
      exact h3.symm.trans h0
  · exact atL_mem (nz_rise h) (List.mem_filter.2 ⟨atL_some h0, by simpa using h0⟩)
theorem nz_same {l l' : List (Int × Int)} (h : Rising l) (h' : Rising l') (he : ∀ x, atL l x = atL l' x) : nzL l = nzL l' := rising_ext (nz_rise h) (nz_rise h') nz_nz nz_nz (fun x => by rw [nz_at h, nz_at h', he])
theorem nz_snd (l : List (Int × Int)) : (nzL l).map Prod.snd = (l.map Prod.snd).filter fun x => !decide (x = 0) := by
  unfold nzL
  rw [List.filter_map]
  rfl
theorem gList_same {l l' : List (Int × Int)} (h : Rising l) (h' : Rising l') (he : ∀ x, atL l x = atL l' x) (g : Nat) : gList g (l.map Prod.snd) = gList g (l'.map Prod.snd) := by
  rw [← gList_zeros, ← gList_zeros (l'.map Prod.snd), ← nz_snd, ← nz_snd, nz_same h h' he]
theorem over_same {l l' : List (Int × Int)} (h : Rising l) (h' : Rising l') (he : ∀ x, atL l x = atL l' x) (G : Nat) : overL G l = overL G l' := rising_ext (rising_over h G) (rising_over h' G) (fun e he => over_nz he) (fun e he => over_nz he) (fun x => by rw [atL_over h, atL_over h', he])
theorem fits_same {l l' : List (Int × Int)} (h' : Rising l') (he : ∀ x, atL l x = atL l' x) {M G : Nat} (hf : FitsL M G l) : FitsL M G l' := by
  refine ⟨hf.1, fun e hm => ?_⟩
  by_cases h0 : e.2 = 0
  · rw [h0]; simp
  · have h1 := atL_mem h' hm
    have h2 := he e.1
    rw [h1] at h2
    have h3 := hf.2 _ (atL_some (l := l) (x := e.1) (by rw [h2]; exact h0))
    simpa [h2] using h3
theorem gcdL_list {D : Nat} {l : List (Int × Int)} (hr : Rising l) : gcdL (D : Int) (atL l) (l.map Prod.fst) l.length = gList D (l.map Prod.snd) := by
  have h0 : gcdL (D : Int) (atL l) (l.map Prod.fst) l.length = gcdTo (D : Int) (cOf l) l.length := by
    have aux : ∀ k, k ≤ l.length → gcdTo (D : Int) (fun i => atL l ((l.map Prod.fst).getD i 0)) k = gcdTo (D : Int) (cOf l) k := by
      intro k
      induction k with
      | zero => intro _; rfl
      | succ k ih =>
        intro hk
        show Int.gcd (gcdTo (D : Int) (fun i => atL l ((l.map Prod.fst).getD i 0)) k : Int) (atL l ((l.map Prod.fst).getD k 0)) = Int.gcd (gcdTo (D : Int) (cOf l) k : Int) (cOf l k)
        rw [ih (by omega)]
        have : atL l ((l.map Prod.fst).getD k 0) = cOf l k := by rw [getD_fst (by omega)]; exact atL_mem hr (getD_mem (by omega))
        rw [this]
    exact aux _ (Nat.le_refl _)
  rw [h0, gcdTo_list _ _ _ (Nat.le_refl _), List.take_length, Int.natAbs_natCast]
theorem sumAt_list {t : List (Int × Int)} (hr : Rising t) (x : Int) : ∀ k, k ≤ t.length → sumAt (pOf t) (cOf t) x k = atL (t.take k) x
  | 0, _ => by simp [sumAt, atL]
  | k + 1, h => by
    rw [atL_take hr (by omega)]
    show sumAt _ _ _ k + _ = _
    rw [sumAt_list hr x k (by omega)]
    by_cases hx : x = pOf t k
    · rw [if_pos hx, if_pos hx.symm]
    · rw [if_neg hx, if_neg (Ne.symm hx)]
theorem sumAt_all {t : List (Int × Int)} (hr : Rising t) (x : Int) : sumAt (pOf t) (cOf t) x t.length = atL t x := by rw [sumAt_list hr x _ (Nat.le_refl _), List.take_length]
theorem sumAt_le {p c : Nat → Int} {n : Nat} (h : ∀ i, i < n → 0 ≤ p i ∧ -1099511627776 ≤ c i ∧ c i ≤ 1099511627776) (x : Int) : ∀ k, k ≤ n → (sumAt p c x k).natAbs ≤ k * 1099511627776
  | 0, _ => by simp [sumAt]
  | k + 1, hk => by
    have ih := sumAt_le h x k (by omega)
    have h1 := h k (by omega)
    show (sumAt p c x k + if x = p k then c k else 0).natAbs ≤ _
    by_cases hx : x = p k
    · rw [if_pos hx]; omega
    · rw [if_neg hx]; omega
theorem mul_bound {F s : Int} {a b : Nat} (hF : F.natAbs ≤ a) (hs : s.natAbs ≤ b) : (F * s).natAbs ≤ a * b := by rw [Int.natAbs_mul]; exact Nat.mul_le_mul hF hs
theorem okLog_pc {d : Int} {n : Nat} {p c : Nat → Int} (h : OkLog d n p c) : ∀ i, i < n → 0 ≤ p i ∧ -1099511627776 ≤ c i ∧ c i ≤ 1099511627776 := fun i hi => by
  have h1 := (h.2.2.1 i hi).2
  exact ⟨by have := h1.2.2.2.2.1; omega, h1.2.2.1, h1.2.2.2.1⟩
theorem LogAt.listed' {w : World} {sv : Value} {n : Nat} {p c : Nat → Int} (h : LogAt w sv n p c) : ∃ t : List (Int × Int), n = t.length ∧ LogAt w sv t.length (pOf t) (cOf t) := by
  refine ⟨(List.range n).map fun i => (p i, c i), by simp, ?_⟩
  rcases h with ⟨ad, cap, h1, h2⟩ | ⟨b, o, cap, h1, h2, h3⟩
  · exact Or.inl ⟨ad, cap, h1, by simp [h2]⟩
  · refine Or.inr ⟨b, o, cap, by simpa using h1, by simpa using h2, fun i hi => ?_⟩
    have hi' : i < n := by simpa using hi
    have e1 : pOf ((List.range n).map fun i => (p i, c i)) i = p i := by simp [pOf, List.getD, hi']
    have e2 : cOf ((List.range n).map fun i => (p i, c i)) i = c i := by simp [cOf, List.getD, hi']
    rw [e1, e2]
    exact h3 i hi'

/-- The answer of a sum: in form and nil, or nothing and ErrBound. -/
def SaidOf (M : Nat) (l : List (Int × Int)) (a : Nat → Addr) (w : World) (dn : Int) (v er : Value) : Prop := (FitsL M (gList M (l.map Prod.snd)) l ∧ dn = ((M / gList M (l.map Prod.snd) : Nat) : Int) ∧ er = .nilIface ∧ ListAt w v (overL (gList M (l.map Prod.snd)) l)) ∨ (¬ FitsL M (gList M (l.map Prod.snd)) l ∧ dn = 0 ∧ v = .slice none 0 0 ∧ er = .iface 184 (.pointer (some (a 1))))
theorem ToldOf.same {M : Nat} {l l' : List (Int × Int)} (h : Rising l) (h' : Rising l') (he : ∀ x, atL l x = atL l' x) {w : World} {dn : Int} {v : Value} {code : Int} (ht : ToldOf M l w dn v code) : ToldOf M l' w dn v code := by
  have hg := gList_same h h' he M
  have ho := over_same h h' he (gList M (l'.map Prod.snd))
  rcases ht with ⟨h1, h2, h3, h4⟩ | ⟨h1, h2, h3, h4⟩
  · rw [hg] at h1 h2 h4
    rw [ho] at h4
    exact Or.inl ⟨fits_same h' he h1, h2, h3, h4⟩
  · rw [hg] at h1
    exact Or.inr ⟨fun hf => h1 (fits_same h (fun x => (he x).symm) hf), h2, h3, h4⟩
theorem ToldOf.later {M : Nat} {l : List (Int × Int)} {w w' : World} {dn : Int} {v : Value} {code : Int} (ht : ToldOf M l w dn v code) (hb : Below w.heap.size w w') : ToldOf M l w' dn v code := by
  rcases ht with ⟨h1, h2, h3, h4⟩ | h
  · exact Or.inl ⟨h1, h2, h3, OwnAt.later h4 hb⟩
  · exact Or.inr h
theorem SaidOf.later {M : Nat} {l : List (Int × Int)} {a : Nat → Addr} {w w' : World} {dn : Int} {v er : Value} (ht : SaidOf M l a w dn v er) (hb : Below w.heap.size w w') : SaidOf M l a w' dn v er := by
  rcases ht with ⟨h1, h2, h3, h4⟩ | h
  · exact Or.inl ⟨h1, h2, h3, OwnAt.later h4 hb⟩
  · exact Or.inr h

/-- isLog of what both say of one sum. -/
theorem isLog_said (M : Nat) (l : List (Int × Int)) (a : Nat → Addr) (w : World) (h : Errs w a) (hl : l.length ≤ 1000000) (dn1 dn2 code : Int) (ad1 ad2 : Option Addr) (m1 m2 cap1 cap2 : Nat) (er : Value) (h1 : SaidOf M l a w dn1 (.slice ad1 m1 cap1) er) (h2 : ToldOf M l w dn2 (.slice ad2 m2 cap2) code) :
    Calls Tryz.prog 12 #[.agg #[.int .i64 dn1, .slice ad1 m1 cap1], er, .agg #[.int .i64 dn2, .slice ad2 m2 cap2], .int .i64 code] w fun e w' => e = .returned (.bool true) ∧ Below w.heap.size w w' := by
  rcases h1 with ⟨f1, rfl, rfl, l1⟩ | ⟨f1, rfl, v1, rfl⟩
  · rcases h2 with ⟨_, rfl, rfl, l2⟩ | ⟨f2, _⟩
    · exact isLog_ok _ _ _ _ _ _ w l1 l2 (by have := length_over l (gList M (l.map Prod.snd)); omega)
    · exact absurd f1 f2
  · rcases h2 with ⟨f2, _⟩ | ⟨_, rfl, v2, rfl⟩
    · exact absurd f2 f1
    · rw [v1]
      exact isLog_err a 1 (by decide) 0 ad2 m2 cap2 w h
end Go.Proofs.YtgellgobgiolnaaGreatDoor
