/- The law's isLog. -/
import Derived.Test.YtklhfagcembigaaGreatDoorOfAny
import Derived.Test.YtklhfagcembigaaGreatDoorCode
import Derived.Test.YtklhfagcembigaaGreatDoorWLog
import Derived.Test.YtklhfagcembigaaGreatDoorWToldW
import Derived.Test.YtklhfagcembigaaGreatDoorValidWalk
import Derived.Test.YtklhfagcembigaaGreatDoorPutT
import Derived.Deep.CutRange
import Derived.Test.YtklhfagcembigaaGreatDoorTold
import Derived.Test.YtklhfagcembigaaGreatDoorPutEnt
import Derived.Test.YtklhfagcembigaaGreatDoorGList
import Derived.Shelf.Small.Bits
import Derived.Shelf.Strconv.Itoa0
import Derived.Ground.NamesProg
import Derived.Test.YtklhfagcembigaaGreatDoorProg
namespace Go.Proofs.YtklhfagcembigaaGreatDoor
open Go.RowKit

theorem same_own (den : Int) (v1 v2 : Value) (n : Nat) (p c : Nat → Int) (w : World) (h1 : OwnAt w v1 n p c) (h2 : OwnAt w v2 n p c) (hn : n ≤ 1000000) :
    Calls Tryz.prog 30 #[.agg #[.int .i64 den, v1], .agg #[.int .i64 den, v2]] w fun e w' => e = .returned (.bool true) ∧ Below w.heap.size w w' := by
  rcases h1 with ⟨rfl, rfl⟩ | ⟨g1, c1, rfl, t1⟩
  · rcases h2 with ⟨rfl, _⟩ | ⟨g2, c2, rfl, t2⟩
    · exact SameLog_none den none none 0 0 w
    · exact SameLog_none den none _ 0 c2 w
  · rcases h2 with ⟨rfl, rfl⟩ | ⟨g2, c2, rfl, t2⟩
    · exact SameLog_none den _ none c1 0 w
    · exact SameLog_some den g1 0 c1 g2 0 c2 n p c w t1 t2 hn
theorem own_form {w : World} {v : Value} {n : Nat} {p c : Nat → Int} (h : OwnAt w v n p c) : ∃ ad m cap, v = .slice ad m cap := by
  rcases h with ⟨rfl, _⟩ | ⟨g, cap, rfl, _⟩
  · exact ⟨_, _, _, rfl⟩
  · exact ⟨_, _, _, rfl⟩

set_option maxRecDepth 10000 in
set_option maxHeartbeats 1000000 in
theorem isLog_ok (den : Int) (v1 v2 : Value) (n : Nat) (p c : Nat → Int) (w : World) (h1 : OwnAt w v1 n p c) (h2 : OwnAt w v2 n p c) (hn : n ≤ 1000000) :
    Calls Tryz.prog 12 #[.agg #[.int .i64 den, v1], .nilIface, .agg #[.int .i64 den, v2], .int .i64 0] w fun e w' => e = .returned (.bool true) ∧ Below w.heap.size w w' := by
  obtain ⟨ad1, m1, cap1, rfl⟩ := own_form h1
  obtain ⟨ad2, m2, cap2, rfl⟩ := own_form h2
  have hb0 : Below w.heap.size w ((w.alloc (.cells #[.int .i64 den, .slice ad1 m1 cap1] 27)).alloc (.cells #[.int .i64 den, .slice ad2 m2 cap2] 27)) := ((Below.refl _ _).alloc (Nat.le_refl _) _).alloc (by simp) _
  have hs := same_own den _ _ n p c _ (h1.later hb0) (h2.later hb0) hn
  have HB := Hid.mk' hb0
  clear h1 h2 hb0
  go_enter Tryz.func12, Tryz.ntmps12
  go_wp2_with fail
  refine hs.mono ?_
  clear hs
  rintro e w1 ⟨rfl, hb1⟩
  go_wp2_with fail
  go_ret
  exact ⟨rfl, below_chain HB.out hb1⟩

set_option maxRecDepth 10000 in
set_option maxHeartbeats 1000000 in
theorem isLog_err (a : Nat → Addr) (k : Nat) (hk : k < 8) (d2 : Int) (ad2 : Option Addr) (m2 cap2 : Nat) (w : World) (h : Errs w a) :
    Calls Tryz.prog 12 #[.agg #[.int .i64 0, .slice none 0 0], .iface 183 (.pointer (some (a k))), .agg #[.int .i64 d2, .slice ad2 m2 cap2], .int .i64 ((k : Int) + 1)] w fun e w' => e = .returned (.bool true) ∧ Below w.heap.size w w' := by
  have hb0 : Below w.heap.size w ((w.alloc (.cells #[.int .i64 0, .slice none 0 0] 27)).alloc (.cells #[.int .i64 d2, .slice ad2 m2 cap2] 27)) := ((Below.refl _ _).alloc (Nat.le_refl _) _).alloc (by simp) _
  have hc := coded_err a k hk ((k : Int) + 1) _ (h.below hb0)
  rw [decide_eq_true rfl] at hc
  have HB := Hid.mk' hb0
  have hk1 : (0 : Int) < (k : Int) + 1 := by omega
  clear h hb0
  go_enter Tryz.func12, Tryz.ntmps12
  go_wp2_with fail
  refine hc.mono ?_
  clear hc
  rintro e w1 ⟨rfl, hb1⟩
  have c0 := hb1.cell (p := ⟨w.heap.size, 0, none⟩) (by simp; omega)
  have c1 := hb1.cell (p := ⟨w.heap.size, 1, none⟩) (by simp; omega)
  rw [World.cell?_alloc_lt _ _ ⟨w.heap.size, 0, none⟩ (by simp), World.cell?_alloc_at _ _ _ _ rfl] at c0
  rw [World.cell?_alloc_lt _ _ ⟨w.heap.size, 1, none⟩ (by simp), World.cell?_alloc_at _ _ _ _ rfl] at c1
  simp at c0 c1
  have HB1 := Hid.mk' (below_chain HB.out hb1)
  clear hb1
  go_wp2_with fail
  go_ret
  exact ⟨rfl, HB1.out⟩
end Go.Proofs.YtklhfagcembigaaGreatDoor

/- The document's LogSum. -/
namespace Go.Proofs.YtklhfagcembigaaGreatDoor
open Go.RowKit

def FitsL (M G : Nat) (l : List (Int × Int)) : Prop := M / G ≤ 1000000 ∧ ∀ e ∈ l, (e.2.tdiv (G : Int)).natAbs ≤ 1099511627776
theorem fits_iff (M G : Nat) (L : List Ent) : FitsW M G L ↔ FitsL M G (absL L) := by
  unfold FitsW FitsL
  constructor
  · rintro ⟨h1, h2⟩
    refine ⟨h1, fun e he => ?_⟩
    obtain ⟨f, hf, rfl⟩ := List.mem_map.1 he
    exact h2 f hf
  · rintro ⟨h1, h2⟩
    exact ⟨h1, fun e he => h2 _ (absL_mem he)⟩
theorem zs_abs (L : List Ent) : zsOf L = (absL L).map Prod.snd := by unfold zsOf absL; rw [List.map_map]; rfl
theorem bool_of (P : Prop) : ∃ b : Bool, b = true ↔ P := by
  by_cases h : P
  · exact ⟨true, ⟨fun _ => h, fun _ => rfl⟩⟩
  · exact ⟨false, ⟨(fun e => by cases e), (fun e => absurd e h)⟩⟩
/-- What is told of a sum l over M: in form, or the bound. -/
def ToldOf (M : Nat) (l : List (Int × Int)) (w : World) (dn : Int) (v : Value) (code : Int) : Prop := (FitsL M (gList M (l.map Prod.snd)) l ∧ dn = ((M / gList M (l.map Prod.snd) : Nat) : Int) ∧ code = 0 ∧ ListAt w v (overL (gList M (l.map Prod.snd)) l)) ∨ (¬ FitsL M (gList M (l.map Prod.snd)) l ∧ dn = 0 ∧ v = .slice none 0 0 ∧ code = 2)

end Go.Proofs.YtklhfagcembigaaGreatDoor

/- logs.Valid at any logarithm. -/
namespace Go.Proofs.YtklhfagcembigaaGreatDoor
open Go.RowKit

set_option maxHeartbeats 1000000 in
/-- Valid at a slice without terms, wherever it lies. -/
theorem Valid_zero (den : Int) (ad : Option Addr) (cap : Nat) (p c : Nat → Int) (a : Nat → Addr) (ok : Bool) (hok : ok = true ↔ OkLog den 0 p c) (w : World) (h : Errs w a) :
    Calls Tryz.prog 69 #[.agg #[.int .i64 den, .slice ad 0 cap]] w fun e w' => e = .returned (shapeErr ok a) ∧ Below w.heap.size w w' := by
  have HOK : Hid (ok = true ↔ den = 1) := hok.trans (OkLog_none den p c)
  have HE : Hid (Errs w a) := h
  clear hok h
  have hal : ∀ X, (w.alloc X).cell? ⟨1, 0, none⟩ = some (.iface 183 (.pointer (some (a 2)))) := fun X => shape_later HE.out ((Below.refl _ _).alloc (Nat.le_refl _) _)
  by_cases h1 : 1 ≤ den
  · by_cases h2 : den ≤ 1000000
    · by_cases h3 : den = 1
      · have hbt : ok = true := HOK.out.2 h3
        subst hbt
        subst h3
        go_enter Tryz.func69, Tryz.ntmps69
        go_wp2_with fail
        refine wp_loop_rounds 1 ?_
        rw [rounds_succ]
        go_wp2_with fail
        go_ret
        exact ⟨rfl, (Below.refl _ _).alloc (Nat.le_refl _) _⟩
      · have hbf : ok = false := not_true_of HOK.out h3
        subst hbf
        have hgb : (den != 1) = true := by simp [h3]
        clear h3
        go_enter Tryz.func69, Tryz.ntmps69
        go_wp2_with fail
        refine wp_loop_rounds 1 ?_
        rw [rounds_succ]
        go_wp2_with fail
        go_ret
        exact ⟨rfl, (Below.refl _ _).alloc (Nat.le_refl _) _⟩
    · have hbf : ok = false := not_true_of HOK.out (fun h => h2 (by omega))
      subst hbf
      go_enter Tryz.func69, Tryz.ntmps69
      go_wp2_with fail
      go_ret
      exact ⟨rfl, (Below.refl _ _).alloc (Nat.le_refl _) _⟩
  · have hbf : ok = false := not_true_of HOK.out (fun h => h1 (by omega))
    subst hbf
    go_enter Tryz.func69, Tryz.ntmps69
    go_wp2_with fail
    go_ret
    exact ⟨rfl, (Below.refl _ _).alloc (Nat.le_refl _) _⟩
theorem Valid_log (den : Int) (sv : Value) (n : Nat) (p c : Nat → Int) (a : Nat → Addr) (ok : Bool) (hok : ok = true ↔ OkLog den n p c) (w : World) (h : Errs w a) (hs : LogAt w sv n p c) (hn : n ≤ 1000000) :
    Calls Tryz.prog 69 #[.agg #[.int .i64 den, sv]] w fun e w' => e = .returned (shapeErr ok a) ∧ Below w.heap.size w w' := by
  rcases hs with ⟨ad, cap, rfl, rfl⟩ | ⟨b, o, cap, rfl, h0, ht⟩
  · exact Valid_zero den ad cap p c a ok hok w h
  · exact Valid_terms den b o n cap p c a ok hok w h ht hn
theorem LogAt.slice {w : World} {sv : Value} {n : Nat} {p c : Nat → Int} (h : LogAt w sv n p c) : ∃ ad cap, sv = .slice ad n cap := by
  rcases h with ⟨ad, cap, rfl, rfl⟩ | ⟨b, o, cap, rfl, _⟩
  · exact ⟨_, _, rfl⟩
  · exact ⟨_, _, rfl⟩
end Go.Proofs.YtklhfagcembigaaGreatDoor

/- logs.Add where the sum has a form. -/
namespace Go.Proofs.YtklhfagcembigaaGreatDoor
open Go.RowKit Go.Maps

/-- What the walk of Add keeps from a world on. -/
structure AddKeeps (B : Nat) (da db : Nat) (s1 s2 : Value) (n1 n2 : Nat) (t1 t2 : List (Int × Int)) (W : World) : Prop where
  a0 : W.cell? ⟨B, 0, none⟩ = some (.int .i64 da)
  a1 : W.cell? ⟨B, 1, none⟩ = some s1
  b0 : W.cell? ⟨B + 1, 0, none⟩ = some (.int .i64 db)
  b1 : W.cell? ⟨B + 1, 1, none⟩ = some s2
  r0 : W.cell? ⟨B + 1 + 1, 0, none⟩ = some (.int .i64 0)
  r1 : W.cell? ⟨B + 1 + 1, 1, none⟩ = some (.slice none 0 0)
  f0 : W.frozen? ⟨B + 1 + 1, 0, none⟩ = false
  f1 : W.frozen? ⟨B + 1 + 1, 1, none⟩ = false
  l1 : LogAt W s1 n1 (pOf t1) (cOf t1)
  l2 : LogAt W s2 n2 (pOf t2) (cOf t2)
theorem AddKeeps.later {B da db : Nat} {s1 s2 : Value} {n1 n2 : Nat} {t1 t2 : List (Int × Int)} {W W' : World} (h : AddKeeps B da db s1 s2 n1 n2 t1 t2 W) (hb : Below W.heap.size W W') : AddKeeps B da db s1 s2 n1 n2 t1 t2 W' :=
  ⟨(cell_past h.a0 hb).2, (cell_past h.a1 hb).2, (cell_past h.b0 hb).2, (cell_past h.b1 hb).2, (cell_past h.r0 hb).2, (cell_past h.r1 hb).2, (frozen_past h.r0 h.f0 hb).2, (frozen_past h.r1 h.f1 hb).2, h.l1.later hb, h.l2.later hb⟩

theorem box_past {w3 w4 : World} {x y : Value} {t : TypeId} (hb : Below ((w3.alloc (.cells #[x, y] t)).drew).heap.size ((w3.alloc (.cells #[x, y] t)).drew) w4) : w4.cell? ⟨w3.heap.size, 0, none⟩ = some x ∧ w4.cell? ⟨w3.heap.size, 1, none⟩ = some y ∧ w4.frozen? ⟨w3.heap.size, 0, none⟩ = false ∧ w4.frozen? ⟨w3.heap.size, 1, none⟩ = false := by
  have h : Below (w3.alloc (.cells #[x, y] t)).heap.size (w3.alloc (.cells #[x, y] t)) w4 := below_chain ((Below.refl _ _).drew) hb
  have c0 : (w3.alloc (.cells #[x, y] t)).cell? ⟨w3.heap.size, 0, none⟩ = some x := by rw [World.cell?_alloc_at _ _ _ _ rfl]; rfl
  have c1 : (w3.alloc (.cells #[x, y] t)).cell? ⟨w3.heap.size, 1, none⟩ = some y := by rw [World.cell?_alloc_at _ _ _ _ rfl]; rfl
  exact ⟨(cell_past c0 h).2, (cell_past c1 h).2, (frozen_past c0 (frozen_new rfl) h).2, (frozen_past c1 (frozen_new rfl) h).2⟩
theorem below_set {w3 w4 : World} (hc : Below w3.heap.size w3 w4) (x y : Value) : Below w3.heap.size w3 ((w4.setCell ⟨w3.heap.size, 0, none⟩ x).setCell ⟨w3.heap.size, 1, none⟩ y) := (hc.setCell (Nat.le_refl _) _).setCell (Nat.le_refl _) _
theorem quo_i64 {a b : Nat} (h : a ≤ 1000000) : IntKind.i64.wrap ((a : Int) / (b : Int)) = ((a / b : Nat) : Int) := by
  have h0 : (a : Int) / (b : Int) = ((a / b : Nat) : Int) := by simp
  have h1 : a / b ≤ a := Nat.div_le_self _ _
  rw [h0, IntKind.wrap_i64]
  generalize a / b = q at h1
  omega
theorem below_alloc {w W : World} (h : Below w.heap.size w W) (X : Obj) : Below w.heap.size w (W.alloc X) := h.alloc h.size X

/-- The new sum's box and its map. -/
structure SumBox (w3 wx : World) (Bs mb : Nat) (D : Int) : Prop where
  below : Below w3.heap.size w3 wx
  s0 : wx.cell? ⟨Bs, 0, none⟩ = some (.int .i64 D)
  s1 : wx.cell? ⟨Bs, 1, none⟩ = some (.map (some mb))
  own : wx.ownsMap Tryz.prog 3 (plainElem (H := Unit) Tryz.prog 3) mb 0 (mapOf [])
  hB : w3.heap.size ≤ Bs
  hm : w3.heap.size ≤ mb
theorem sumBox_late {w3 w4 : World} {D : Int} (ho : w4.ownsMap Tryz.prog 3 (plainElem (H := Unit) Tryz.prog 3) (w3.heap.size + 1) 0 (.map [])) (hc : Below w3.heap.size w3 w4) : SumBox w3 (w4.alloc (.cells #[.int .i64 D, .map (some (w3.heap.size + 1))] 86)) w4.heap.size (w3.heap.size + 1) D :=
  ⟨below_alloc hc _, by rw [World.cell?_alloc_at _ _ _ _ rfl]; rfl, by rw [World.cell?_alloc_at _ _ _ _ rfl]; rfl, ownsMap_later ho (Below.heap_alloc _ _ _ ho.lt), hc.size, by omega⟩
theorem sumBox_soon {w3 w4 : World} {D : Int} {u v : Value} (ho : w4.ownsMap Tryz.prog 3 (plainElem (H := Unit) Tryz.prog 3) (w3.heap.size + 1 + 1) 0 (.map [])) (hc : Below w3.heap.size w3 w4) (h0 : w4.cell? ⟨w3.heap.size, 0, none⟩ = some u) (h1 : w4.cell? ⟨w3.heap.size, 1, none⟩ = some v) :
    SumBox w3 ((w4.setCell ⟨w3.heap.size, 0, none⟩ (.int .i64 D)).setCell ⟨w3.heap.size, 1, none⟩ (.map (some (w3.heap.size + 1 + 1)))) w3.heap.size (w3.heap.size + 1 + 1) D := by
  refine ⟨below_set hc _ _, ?_, ?_, ownsMap_later ho ?_, Nat.le_refl _, by omega⟩
  · rw [World.cell?_setCell_other _ _ _ _ (by simp)]; exact World.cell?_setCell_same _ _ _ h0
  · exact World.cell?_setCell_same _ _ _ (by rw [World.cell?_setCell_other _ _ _ _ (by simp)]; exact h1)
  · rw [Below.heap_setCell _ _ _ _ (by show w3.heap.size + 1 + 1 ≠ w3.heap.size; omega), Below.heap_setCell _ _ _ _ (by show w3.heap.size + 1 + 1 ≠ w3.heap.size; omega)]
theorem grown_below {w3 W W' : World} {mb : Nat} (h : Below w3.heap.size w3 W) (hg : W.grownBy W' (some mb)) (hm : w3.heap.size ≤ mb) : Below w3.heap.size w3 W' :=
  h.grown hg h.size (fun k e => by cases e; exact hm)

set_option maxRecDepth 100000 in
set_option maxHeartbeats 2000000 in
theorem Add_ok (da db : Nat) (ad1 ad2 : Option Addr) (cap1 cap2 : Nat) (t1 t2 : List (Int × Int)) (a : Nat → Addr) (w : World) (h : Errs w a) (hl1 : LogAt w (.slice ad1 t1.length cap1) t1.length (pOf t1) (cOf t1)) (hl2 : LogAt w (.slice ad2 t2.length cap2) t2.length (pOf t2) (cOf t2))
    (hok1 : OkLog da t1.length (pOf t1) (cOf t1)) (hok2 : OkLog db t2.length (pOf t2) (cOf t2)) (hn : t1.length + t2.length ≤ 10000) (g : Nat) (hg : g = Int.gcd (da : Int) (db : Int))
    (hfit : ∀ l, Rising l → (∀ x, atL l x = atL t1 x * ((db / g : Nat) : Int) + atL t2 x * ((da / g : Nat) : Int)) → ∃ G : Nat, gcdL ((da / g * db : Nat) : Int) (atL l) (l.map Prod.fst) l.length = G ∧ ((da / g * db : Nat) : Int) / (G : Int) ≤ 1000000 ∧ ∀ e ∈ l, (e.2.tdiv (G : Int)).natAbs ≤ 1099511627776) :
    Calls Tryz.prog 40 #[.agg #[.int .i64 da, .slice ad1 t1.length cap1], .agg #[.int .i64 db, .slice ad2 t2.length cap2]] w fun e w' => ∃ (v : Value) (l : List (Int × Int)) (G : Nat), Rising l ∧ (∀ x, atL l x = atL t1 x * ((db / g : Nat) : Int) + atL t2 x * ((da / g : Nat) : Int)) ∧ gcdL ((da / g * db : Nat) : Int) (atL l) (l.map Prod.fst) l.length = G ∧
      e = .returned (.tuple #[.agg #[.int .i64 (((da / g * db : Nat) : Int) / (G : Int)), v], .nilIface]) ∧ ListAt w' v (overL G l) ∧ l.length ≤ t1.length + t2.length ∧ Below w.heap.size w w' := by
  have hb0 : Below w.heap.size w (((w.alloc (.cells #[.int .i64 da, .slice ad1 t1.length cap1] 27)).alloc (.cells #[.int .i64 db, .slice ad2 t2.length cap2] 27)).alloc (.cells #[.int .i64 0, .slice none 0 0] 27)) := (((Below.refl _ _).alloc (Nat.le_refl _) _).alloc (by simp) _).alloc (by simp; omega) _
  have hk0 : AddKeeps w.heap.size da db (.slice ad1 t1.length cap1) (.slice ad2 t2.length cap2) t1.length t2.length t1 t2 (((w.alloc (.cells #[.int .i64 da, .slice ad1 t1.length cap1] 27)).alloc (.cells #[.int .i64 db, .slice ad2 t2.length cap2] 27)).alloc (.cells #[.int .i64 0, .slice none 0 0] 27)) :=
    ⟨by rw [World.cell?_alloc_lt _ _ ⟨w.heap.size, 0, none⟩ (by simp; omega), World.cell?_alloc_lt _ _ ⟨w.heap.size, 0, none⟩ (by simp), World.cell?_alloc_at _ _ _ _ rfl]; rfl,
     by rw [World.cell?_alloc_lt _ _ ⟨w.heap.size, 1, none⟩ (by simp; omega), World.cell?_alloc_lt _ _ ⟨w.heap.size, 1, none⟩ (by simp), World.cell?_alloc_at _ _ _ _ rfl]; rfl,
     by rw [World.cell?_alloc_lt _ _ ⟨w.heap.size + 1, 0, none⟩ (by simp), World.cell?_alloc_at _ _ _ _ (by simp)]; rfl,
     by rw [World.cell?_alloc_lt _ _ ⟨w.heap.size + 1, 1, none⟩ (by simp), World.cell?_alloc_at _ _ _ _ (by simp)]; rfl,
     by rw [World.cell?_alloc_at _ _ _ _ (by simp)]; rfl, by rw [World.cell?_alloc_at _ _ _ _ (by simp)]; rfl, frozen_new (by simp), frozen_new (by simp), hl1.later hb0, hl2.later hb0⟩
  generalize hW0 : (((w.alloc (.cells #[.int .i64 da, .slice ad1 t1.length cap1] 27)).alloc (.cells #[.int .i64 db, .slice ad2 t2.length cap2] 27)).alloc (.cells #[.int .i64 0, .slice none 0 0] 27)) = W0 at hb0 hk0
  have hv1 := Valid_log da _ t1.length (pOf t1) (cOf t1) a true ⟨fun _ => hok1, fun _ => rfl⟩ W0 (h.below hb0) hk0.l1 (by omega)
  simp only [shapeErr] at hv1
  have HE := Hid.mk' (h.below hb0)
  have HK0 := Hid.mk' hk0
  have HB0 := Hid.mk' hb0
  have HW0 := Hid.mk' hW0
  have HO1 := Hid.mk' hok1
  have HO2 := Hid.mk' hok2
  have HG := Hid.mk' hg
  have HF := Hid.mk' hfit
  have hd1 : 1 ≤ da ∧ da ≤ 1000000 := by have := hok1.1; have := hok1.2.1; omega
  have hd2 : 1 ≤ db ∧ db ≤ 1000000 := by have := hok2.1; have := hok2.2.1; omega
  clear h hl1 hl2 hok1 hok2 hb0 hk0 hW0 hg hfit
  go_enter Tryz.func40, Tryz.ntmps40
  go_wp2_with fail
  rw [HW0.out]
  refine hv1.mono ?_
  clear hv1 HW0
  rintro e w1 ⟨rfl, hb1⟩
  have HK1 := Hid.mk' (HK0.out.later hb1)
  have c1 := HK1.out.b0
  have c2 := HK1.out.b1
  have hv2 := Valid_log db _ t2.length (pOf t2) (cOf t2) a true ⟨fun _ => HO2.out, fun _ => rfl⟩ w1 (HE.out.below hb1) HK1.out.l2 (by omega)
  simp only [shapeErr] at hv2
  have HB1 := Hid.mk' (below_chain HB0.out hb1)
  clear hb1 HK0 HB0 HE
  go_wp2_with fail
  refine hv2.mono ?_
  clear hv2 c1 c2
  rintro e w2 ⟨rfl, hb2⟩
  have HK2 := Hid.mk' (HK1.out.later hb2)
  have HB2 := Hid.mk' (below_chain HB1.out hb2)
  have c0 := HK2.out.a0
  have c1 := HK2.out.b0
  clear hb2 HK1 HB1
  have hg1 : 1 ≤ g ∧ g ≤ da ∧ g ≤ db := by
    rw [HG.out]
    have h1 : Int.gcd (da : Int) (db : Int) ≤ da := Nat.gcd_le_left _ (by simp; omega)
    have h2 : Int.gcd (da : Int) (db : Int) ≤ db := Nat.gcd_le_right _ (by simp; omega)
    have h3 : 0 < Int.gcd (da : Int) (db : Int) := Nat.gcd_pos_of_pos_left _ (by simp; omega)
    exact ⟨h3, h1, h2⟩
  have hgcd := GCD_any (da : Int) (db : Int) w2 (by omega) (by omega) (by omega) (by omega)
  rw [← HG.out] at hgcd
  go_wp2_with fail
  refine hgcd.mono ?_
  clear hgcd
  rintro e w3 ⟨rfl, m3, hw3⟩
  have hb3 : Below w2.heap.size w2 w3 := by rw [hw3]; exact below_drewN (Below.refl _ _) _
  have HK3 := Hid.mk' (HK2.out.later hb3)
  have HB3 := Hid.mk' (below_chain HB2.out hb3)
  clear hw3 hb3 HK2 HB2 c0 c1
  have hcur0 : Below w3.heap.size w3 w3 := Below.refl _ _
  have hcur : Below w3.heap.size w3 w3.drew := (Below.refl _ _).drew
  have hgn : ¬ g = 0 := by omega
  have hqa := quo_i64 (b := g) hd1.2
  have hqb := quo_i64 (b := g) hd2.2
  have HQ := Hid.mk' (And.intro hqa hqb)
  have hda : da / g ≤ 1000000 := Nat.le_trans (Nat.div_le_self _ _) hd1.2
  have hdb : db / g ≤ 1000000 := Nat.le_trans (Nat.div_le_self _ _) hd2.2
  clear hqa hqb
  have e1 : (da : Int).tdiv (g : Int) = ((da / g : Nat) : Int) := by simp
  have e2 : IntKind.i64.wrap ((da : Int).tdiv (g : Int)) = ((da / g : Nat) : Int) := by rw [e1, IntKind.wrap_i64]; generalize da / g = q at hda; omega
  have e3 : IntKind.i64.wrap (((da / g : Nat) : Int) * (db : Int)) = ((da / g * db : Nat) : Int) := by
    have := Nat.mul_le_mul hda hd2.2
    rw [← Int.natCast_mul, IntKind.wrap_i64]
    generalize da / g * db = q at this
    omega
  have HKS : Hid (∀ W, Below w3.heap.size w3 W → W.cell? ⟨w.heap.size, 0, none⟩ = some (.int .i64 da) ∧ W.cell? ⟨w.heap.size + 1, 0, none⟩ = some (.int .i64 db)) := fun W hb => ⟨(HK3.out.later hb).a0, (HK3.out.later hb).b0⟩
  have eD : IntKind.i64.wrap (IntKind.i64.wrap ((da : Int) / (g : Int)) * (db : Int)) = ((da / g * db : Nat) : Int) := by
    rw [show IntKind.i64.wrap ((da : Int) / (g : Int)) = ((da / g : Nat) : Int) from HQ.out.1]; exact e3
  have hDb : da / g * db ≤ 1000000000000 := Nat.le_trans (Nat.mul_le_mul hda hd2.2) (by decide)
  have hDp : 1 ≤ da / g * db := Nat.mul_pos (Nat.div_pos hg1.2.1 hg1.1) hd2.1
  obtain ⟨D, hD⟩ : ∃ D, D = da / g * db := ⟨_, rfl⟩
  rw [← hD] at eD hDb hDp
  have HDD := Hid.mk' hD
  have HED := Hid.mk' eD
  clear e1 e2 e3 eD hD
  have hcurA : ∀ X, Below w3.heap.size w3 (w3.alloc X).drew := fun X => (below_alloc hcur0 X).drew
  go_wp2_with fail
  go_cut [9] from 27 (fun s wx => ∃ Bs mb : Nat, s = .pointer (some ⟨Bs, 0, none⟩) ∧ Hid (SumBox w3 wx Bs mb (D : Int)))
  case first =>
    go_region_held3 (fun W => W.cell? ⟨w.heap.size, 0, none⟩ = some (.int .i64 da) ∧ W.cell? ⟨w.heap.size + 1, 0, none⟩ = some (.int .i64 db))
      (first | (refine HKS.out _ ?_; assumption) | exact HKS.out _ (hcurA _) | (refine HKS.out _ (below_alloc ?_ _); assumption) | exact HKS.out _ (below_set hc4 _ _))
      (first
        | (go_at_call 51; refine (newSum_any _ _).mono ?_; rintro e w4 ⟨rfl, hown4, hb4⟩; have hc4 := below_chain hcur hb4)
        | (go_at_call 51; refine (newSum_any _ _).mono ?_; rintro e w4 ⟨rfl, hown4, hb4⟩; have hc4 := below_chain (hcurA _) hb4; obtain ⟨x0, x1, x2, x3⟩ := box_past hb4))
    · go_wp2_with fail
      go_meet
      rw [HED.out]
      exact ⟨_, _, rfl, sumBox_late hown4 hc4⟩
    · go_wp2_with fail
      go_meet
      rw [HED.out]
      exact ⟨_, _, rfl, sumBox_soon (by simpa using hown4) hc4 x0 x1⟩
  case rest =>
  obtain ⟨Bs, mb, rfl, HSB⟩ := hcut
  have hmb := HSB.out.hm
  have hBs := HSB.out.hB
  have hbsm : Bs ≠ mb := fun e => by have h1 := HSB.out.s0; rw [e, map_no_cell HSB.out.own] at h1; cases h1
  have hAK := fun (W : World) (hb : Below w3.heap.size w3 W) => HK3.out.later hb
  have HAK := Hid.mk' hAK
  have hm1 : 0 ≤ IntKind.i64.wrap ((db : Int) / (g : Int)) ∧ IntKind.i64.wrap ((db : Int) / (g : Int)) ≤ 1000000 := by rw [HQ.out.2]; generalize db / g = q at hdb; omega
  have hm2 : 0 ≤ IntKind.i64.wrap ((da : Int) / (g : Int)) ∧ IntKind.i64.wrap ((da : Int) / (g : Int)) ≤ 1000000 := by rw [HQ.out.1]; generalize da / g = q at hda; omega
  have HM2 := Hid.mk' hm2
  have HM1 := Hid.mk' hm1
  have hrise1 := HO1.out.rising
  have hrise2 := HO2.out.rising
  have HT1 : Hid (∀ e ∈ t1, 2 ≤ e.1 ∧ e.1 ≤ 1000000 ∧ -1099511627776 ≤ e.2 ∧ e.2 ≤ 1099511627776) := fun e he => by
    have h := HO1.out.mem e he
    exact ⟨h.2.2.2.2.1, h.1, h.2.2.1, h.2.2.2.1⟩
  have HT2 : Hid (∀ e ∈ t2, 2 ≤ e.1 ∧ e.1 ≤ 1000000 ∧ -1099511627776 ≤ e.2 ∧ e.2 ≤ 1099511627776) := fun e he => by
    have h := HO2.out.mem e he
    exact ⟨h.2.2.2.2.1, h.1, h.2.2.1, h.2.2.2.1⟩
  have HR1 := Hid.mk' hrise1
  have HR2 := Hid.mk' hrise2
  have hpt1 := putTerms_any (D : Int) (IntKind.i64.wrap ((db : Int) / (g : Int))) mb 0 ad1 cap1 [] t1 wc.drew (ownsMap_later HSB.out.own rfl) List.Pairwise.nil (fun e he => by cases he) (fun x => by simp [atL]) (HAK.out _ (HSB.out.below.drew)).l1 hrise1 HT1.out hm1 (by omega) (by omega)
  have HPT1 := Hid.mk' hpt1
  have hS9 : wc.cell? ⟨Bs, 0, none⟩ = some (.int .i64 (D : Int)) ∧ wc.cell? ⟨Bs, 1, none⟩ = some (.map (some mb)) ∧ wc.cell? ⟨w.heap.size, 1, none⟩ = some (.slice ad1 t1.length cap1) ∧ wc.cell? ⟨w.heap.size + 1, 0, none⟩ = some (.int .i64 db) := ⟨HSB.out.s0, HSB.out.s1, (HAK.out _ HSB.out.below).a1, (HAK.out _ HSB.out.below).b0⟩
  have HS9 := Hid.mk' hS9
  clear hpt1 hrise1 hrise2 hAK hS9 hm1 hm2 HK3 HKS
  go_wp2_with fail
  go_region_held3 (fun W => W.cell? ⟨Bs, 0, none⟩ = some (.int .i64 (D : Int)) ∧ W.cell? ⟨Bs, 1, none⟩ = some (.map (some mb)) ∧ W.cell? ⟨w.heap.size, 1, none⟩ = some (.slice ad1 t1.length cap1) ∧ W.cell? ⟨w.heap.size + 1, 0, none⟩ = some (.int .i64 db))
    (first | exact HS9.out | exact HS5.out)
    (first
      | (go_at_call 71; refine HPT1.out.mono ?_; rintro e w5 ⟨rfl, l1, hI1⟩; have HI1 := Hid.mk' hI1; have hB5 := grown_below HSB.out.below.drew hI1.grow hmb; have HS5 : Hid (w5.cell? ⟨Bs, 0, none⟩ = some (.int .i64 (D : Int)) ∧ w5.cell? ⟨Bs, 1, none⟩ = some (.map (some mb)) ∧ w5.cell? ⟨w.heap.size, 1, none⟩ = some (.slice ad1 t1.length cap1) ∧ w5.cell? ⟨w.heap.size + 1, 0, none⟩ = some (.int .i64 db)) := ⟨cell_beside hI1.grow HS9.out.1 hbsm, cell_beside hI1.grow HS9.out.2.1 hbsm, (HAK.out _ hB5).a1, (HAK.out _ hB5).b0⟩; clear hI1))
  have hB5 := grown_below HSB.out.below.drew HI1.out.grow hmb
  have hv1 : ∀ x, atL l1 x = atL t1 x * IntKind.i64.wrap ((db : Int) / (g : Int)) := fun x => by
    have := HI1.out.val x
    rw [List.take_length] at this
    simpa [atL] using this
  have hb1 : ∀ x, -1099511627776000000 ≤ atL l1 x ∧ atL l1 x ≤ 1099511627776000000 := fun x => by
    rw [hv1 x]
    exact prod_bd (atL_bound (B := 1099511627776) (by omega) (fun e he => ⟨(HT1.out e he).2.2.1, (HT1.out e he).2.2.2⟩) x) HM1.out
  have hln1 := HI1.out.len
  simp at hln1
  have hpt2 := putTerms_any (D : Int) (IntKind.i64.wrap ((da : Int) / (g : Int))) mb (0 + t1.length) ad2 cap2 l1 t2 w5.drew (ownsMap_later HI1.out.own rfl) HI1.out.rise HI1.out.keys hb1 (HAK.out _ hB5.drew).l2 HR2.out HT2.out HM2.out (by omega) (by omega)
  have HPT2 := Hid.mk' hpt2
  have HV1 := Hid.mk' hv1
  have HS7 : Hid (w5.cell? ⟨Bs, 0, none⟩ = some (.int .i64 (D : Int)) ∧ w5.cell? ⟨Bs, 1, none⟩ = some (.map (some mb)) ∧ w5.cell? ⟨w.heap.size + 1, 1, none⟩ = some (.slice ad2 t2.length cap2) ∧ w5.cell? ⟨w.heap.size, 0, none⟩ = some (.int .i64 da)) := ⟨HS5.out.1, HS5.out.2.1, (HAK.out _ hB5).b1, (HAK.out _ hB5).a0⟩
  have HB5 := Hid.mk' hB5
  clear hpt2 hv1 hb1 HS5 HS9 hB5
  go_wp2_with fail
  go_region_held3 (fun W => W.cell? ⟨Bs, 0, none⟩ = some (.int .i64 (D : Int)) ∧ W.cell? ⟨Bs, 1, none⟩ = some (.map (some mb)) ∧ W.cell? ⟨w.heap.size + 1, 1, none⟩ = some (.slice ad2 t2.length cap2) ∧ W.cell? ⟨w.heap.size, 0, none⟩ = some (.int .i64 da))
    (first | exact HS7.out | exact HS8.out)
    (first
      | (go_at_call 71; refine HPT2.out.mono ?_; rintro e w6 ⟨rfl, l2, hI2⟩; have HI2 := Hid.mk' hI2; have hB6 := grown_below HB5.out.drew hI2.grow hmb; have HS8 : Hid (w6.cell? ⟨Bs, 0, none⟩ = some (.int .i64 (D : Int)) ∧ w6.cell? ⟨Bs, 1, none⟩ = some (.map (some mb)) ∧ w6.cell? ⟨w.heap.size + 1, 1, none⟩ = some (.slice ad2 t2.length cap2) ∧ w6.cell? ⟨w.heap.size, 0, none⟩ = some (.int .i64 da)) := ⟨cell_beside hI2.grow HS7.out.1 hbsm, cell_beside hI2.grow HS7.out.2.1 hbsm, (HAK.out _ hB6).b1, (HAK.out _ hB6).a0⟩; clear hI2))
  have hB6 := grown_below HB5.out.drew HI2.out.grow hmb
  have hv2 : ∀ x, atL l2 x = atL t1 x * ((db / g : Nat) : Int) + atL t2 x * ((da / g : Nat) : Int) := fun x => by
    have h1 := HI2.out.val x
    rw [List.take_length, HV1.out x, HQ.out.1, HQ.out.2] at h1
    exact h1
  obtain ⟨G, hG, hGd, hGq⟩ := HF.out l2 HI2.out.rise hv2
  have hln2 := HI2.out.len
  have hbd2 : ∀ x, -2305843009213693952 ≤ atL l2 x ∧ atL l2 x ≤ 2305843009213693952 := fun x => by
    have h1 := prod_bd (atL_bound (B := 1099511627776) (by omega) (fun e he => ⟨(HT1.out e he).2.2.1, (HT1.out e he).2.2.2⟩) x) HM1.out
    have h2 := prod_bd (atL_bound (B := 1099511627776) (by omega) (fun e he => ⟨(HT2.out e he).2.2.1, (HT2.out e he).2.2.2⟩) x) HM2.out
    rw [hv2 x, ← HQ.out.1, ← HQ.out.2]
    omega
  rw [← HDD.out] at hG hGd
  have ht := told_list (D : Int) mb _ l2 w6 HI2.out.own HI2.out.rise HI2.out.keys (by omega) hbd2 (by omega) (by omega) G hG hGd hGq
  have HRES := Hid.mk' (And.intro HI2.out.rise (And.intro hv2 (And.intro hG hln2)))
  have x0 := HS8.out.1
  have x1 := HS8.out.2.1
  have HB6 := Hid.mk' hB6
  clear hv2 hG hGd hGq hbd2 hB6 HS7 HS8
  go_wp2_with fail
  refine ht.mono ?_
  clear ht x0 x1
  rintro e w7 ⟨v, rfl, hrow, hb7⟩
  have hB7 := below_chain HB6.out hb7
  have HA7 := Hid.mk' (HAK.out _ hB7)
  have c0 := HA7.out.r0
  have c1 := HA7.out.r1
  have d0 := HA7.out.f0
  have d1 := HA7.out.f1
  have HR := Hid.mk' hrow
  have HB8 := Hid.mk' (below_chain HB3.out hB7)
  have z3 := cell_lt (HAK.out w3 (Below.refl _ _)).r0
  simp only at z3
  have z6 := HB6.out.size
  obtain ⟨ad, n', c', rfl⟩ : ∃ ad n' c', v = .slice ad n' c' := by
    rcases hrow.2 with ⟨rfl, _⟩ | ⟨gg, cap', cur', rfl, _⟩
    · exact ⟨_, _, _, rfl⟩
    · exact ⟨_, _, _, rfl⟩
  clear hrow hb7 hB7
  go_wp2_with fail
  refine bodyPost_ret (v := .tuple #[.agg #[.int .i64 ((D : Int) / (G : Int)), .slice ad n' c'], .nilIface]) (by simp [results, Tryz.results40, go_sem, c0, c1]) rfl ⟨.slice ad n' c', l2, G, HRES.out.1, HRES.out.2.1, by rw [← HDD.out]; exact HRES.out.2.2.1, by rw [← HDD.out], ?_, ?_, ?_⟩
  · have h1 := ownsRow_setCell_below HR.out (a := ⟨w.heap.size + 1 + 1, 0, none⟩) (by show w.heap.size + 1 + 1 < _; omega) (.int .i64 ((D : Int) / (G : Int)))
    have h2 := ownsRow_setCell_below h1 (a := ⟨w.heap.size + 1 + 1, 1, none⟩) (by show w.heap.size + 1 + 1 < _; omega) (.slice ad n' c')
    exact ownAt_of_row h2
  · have := HRES.out.2.2.2
    omega
  · exact (HB8.out.setCell (by simp; omega) _).setCell (by simp; omega) _
end Go.Proofs.YtklhfagcembigaaGreatDoor

/- (sum).told in general: a form, or ErrBound. -/
namespace Go.Proofs.YtklhfagcembigaaGreatDoor
open Go.RowKit Go.Maps Go.Sort Go.Shelf

theorem all_next {cf : Int → Int} {G : Nat} {ks : List Int} {k : Nat} {p : Int} (ht : ks.take (k + 1) = ks.take k ++ [p]) (h : ∀ x ∈ ks.take k, (quo cf G x).natAbs ≤ 1099511627776) (hp : (quo cf G p).natAbs ≤ 1099511627776) : Hid (∀ x ∈ ks.take (k + 1), (quo cf G x).natAbs ≤ 1099511627776) := fun x hx => by
  rw [ht, List.mem_append] at hx
  rcases hx with hx | hx
  · exact h x hx
  · rw [List.mem_singleton] at hx; rw [hx]; exact hp

set_option maxRecDepth 100000 in
set_option maxHeartbeats 2000000 in
/-- told: a sum that has a form, or ErrBound. -/
theorem told_any (den : Int) (b nn : Nat) (D : DataW Unit) (cf : Int → Int) (ks : List Int) (w : World) (hown : w.ownsMap Tryz.prog 3 (plainElem Tryz.prog 3) b nn D)
    (hat : ∀ x, D.atKey (.int .i64 x) (.lit (.int .i64 0)) = .lit (.int .i64 (cf x))) (hks : ∀ ss : List Int, ss.Perm (intKeys D) → ss.mergeSort (fun x y => decide (x ≤ y)) = ks) (hsz : Maps.size D ≤ 100000) (hlen : ks.length ≤ 100000)
    (hwf : ∀ x ∈ ks, (Lit.int .i64 x).wf = true) (hd1 : 1 ≤ den) (hd2 : den ≤ 1000000000000) (hcf : ∀ x, -2305843009213693952 ≤ cf x ∧ cf x ≤ 2305843009213693952)
    (G : Nat) (hG : gcdL den cf ks ks.length = G) (a : Nat → Addr) (hE : Errs w a) (fit : Bool) (hfit : fit = true ↔ (den / (G : Int) ≤ 1000000 ∧ ∀ x ∈ ks, (quo cf G x).natAbs ≤ 1099511627776)) :
    Calls Tryz.prog 53 #[.agg #[.int .i64 den, .map (some b)]] w fun e w' => ((fit = true ∧ ∃ v, e = .returned (.tuple #[.agg #[.int .i64 (den / (G : Int)), v], .nilIface]) ∧ w'.ownsRow w.heap.size 90 2 v (countOf (quo cf G) ks) (termsOf (quo cf G) ks)) ∨ (fit = false ∧ e = .returned (.tuple #[.agg #[.int .i64 0, .slice none 0 0], .iface 183 (.pointer (some (a 1)))]))) ∧ Below w.heap.size w w' := by
  have hbl := hown.lt
  have HK : Hid (∀ ss : List Int, ss.Perm (intKeys D) → ss.mergeSort (fun x y => decide (x ≤ y)) = ks) := hks
  have HAT : Hid (∀ x, D.atKey (.int .i64 x) (.lit (.int .i64 0)) = .lit (.int .i64 (cf x))) := hat
  have HWF : Hid (∀ x ∈ ks, (Lit.int .i64 x).wf = true) := hwf
  have HCF : Hid (∀ x, -2305843009213693952 ≤ cf x ∧ cf x ≤ 2305843009213693952) := hcf
  have HG : Hid (gcdL den cf ks ks.length = G) := hG
  have HFIT := Hid.mk' hfit
  have HERR := Hid.mk' hE
  clear hks hat hwf hcf hG hfit hE
  have hb3 : Below w.heap.size w (((w.alloc (.cells #[.int .i64 den, .map (some b)] 86)).alloc (.cells #[.int .i64 0, .slice none 0 0] 27)).alloc (.cells #[.map (some b)] 84)) := (((Below.refl _ _).alloc (Nat.le_refl _) _).alloc (by simp) _).alloc (by simp; omega) _
  have hk := maps_keys (some b) ((w.alloc (.cells #[.int .i64 den, .map (some b)] 86)).alloc (.cells #[.int .i64 0, .slice none 0 0] 27))
  have hs := sorted_keys (w.heap.size + 1 + 1) b nn D _ (((w.alloc (.cells #[.int .i64 den, .map (some b)] 86)).alloc (.cells #[.int .i64 0, .slice none 0 0] 27)).alloc (.cells #[.map (some b)] 84)) (by rw [World.cell?_alloc_at _ _ _ _ (by simp)]; rfl) (by simp) (ownsMap_later hown (hb3.block b hbl)) (by unfold maxLen; omega) (by omega)
  go_enter Tryz.func53, Tryz.ntmps53
  go_wp2_with fail
  refine hk.mono ?_
  clear hk
  rintro e w1 ⟨rfl, rfl⟩
  go_wp2_with fail
  refine hs.mono ?_
  clear hs
  rintro e w2 ⟨v, ss, rfl, hperm, hrow, hnil, hb4⟩
  have hms := HK.out ss hperm
  rw [hms] at hrow
  have hsl : ss.length = ks.length := by rw [← hms]; simp
  rw [hsl] at hrow
  rcases hrow.2 with ⟨rfl, hz⟩ | ⟨g, cap, cur, rfl, hbase, hgb, r1, r2, r3, r4⟩
  · obtain rfl : ks = [] := List.eq_nil_of_length_eq_zero hz
    have hs4 := hb4.size
    simp at hs4
    have hbA := hb3.trans (hb4.mono (show w.heap.size ≤ _ by simp; omega))
    have x0 : w2.cell? ⟨w.heap.size, 0, none⟩ = some (.int .i64 den) := by
      rw [hb4.cell (p := ⟨w.heap.size, 0, none⟩) (by simp; omega), World.cell?_alloc_lt _ _ ⟨w.heap.size, 0, none⟩ (by simp; omega), World.cell?_alloc_lt _ _ ⟨w.heap.size, 0, none⟩ (by simp), World.cell?_alloc_at _ _ _ _ rfl]; rfl
    have z0 : w2.cell? ⟨w.heap.size + 1, 0, none⟩ = some (.int .i64 0) := by
      rw [hb4.cell (p := ⟨w.heap.size + 1, 0, none⟩) (by simp), World.cell?_alloc_lt _ _ ⟨w.heap.size + 1, 0, none⟩ (by simp), World.cell?_alloc_at _ _ _ _ (by simp)]; rfl
    have z1 : w2.cell? ⟨w.heap.size + 1, 1, none⟩ = some (.slice none 0 0) := by
      rw [hb4.cell (p := ⟨w.heap.size + 1, 1, none⟩) (by simp), World.cell?_alloc_lt _ _ ⟨w.heap.size + 1, 1, none⟩ (by simp), World.cell?_alloc_at _ _ _ _ (by simp)]; rfl
    have f0 : w2.frozen? ⟨w.heap.size + 1, 0, none⟩ = false := by
      rw [hb4.frozen (p := ⟨w.heap.size + 1, 0, none⟩) (by simp), World.frozen?_alloc_old _ _ ⟨w.heap.size + 1, 0, none⟩ (by simp)]; exact frozen_new (by simp)
    have f1 : w2.frozen? ⟨w.heap.size + 1, 1, none⟩ = false := by
      rw [hb4.frozen (p := ⟨w.heap.size + 1, 1, none⟩) (by simp), World.frozen?_alloc_old _ _ ⟨w.heap.size + 1, 1, none⟩ (by simp)]; exact frozen_new (by simp)
    obtain rfl : den.natAbs = G := HG.out
    have hG1 : (den.natAbs : Int) = den := by omega
    have hdd : den / den = 1 := Int.ediv_self (by omega)
    have HDD : Hid (den / (den.natAbs : Int) = 1) := by show _ = _; rw [hG1, hdd]
    have HBA : Hid (Below w.heap.size w w2) := hbA
    have hft : fit = true := HFIT.out.2 ⟨by rw [hG1, hdd]; omega, fun x hx => by cases hx⟩
    have HFT := Hid.mk' hft
    clear hrow hnil hb4 hb3 hbA HG hG1 hft
    have y0 : ∀ X, (w2.alloc X).cell? ⟨w.heap.size + 1, 0, none⟩ = some (.int .i64 0) := fun X => by rw [World.cell?_alloc_lt _ _ ⟨w.heap.size + 1, 0, none⟩ (by show w.heap.size + 1 < _; omega)]; exact z0
    have y1 : ∀ X, (w2.alloc X).cell? ⟨w.heap.size + 1, 1, none⟩ = some (.slice none 0 0) := fun X => by rw [World.cell?_alloc_lt _ _ ⟨w.heap.size + 1, 1, none⟩ (by show w.heap.size + 1 < _; omega)]; exact z1
    have g0 : ∀ X, (w2.alloc X).frozen? ⟨w.heap.size + 1, 0, none⟩ = false := fun X => by rw [World.frozen?_alloc_old _ _ ⟨w.heap.size + 1, 0, none⟩ (by show w.heap.size + 1 ≠ _; omega)]; exact f0
    have g1 : ∀ X, (w2.alloc X).frozen? ⟨w.heap.size + 1, 1, none⟩ = false := fun X => by rw [World.frozen?_alloc_old _ _ ⟨w.heap.size + 1, 1, none⟩ (by show w.heap.size + 1 ≠ _; omega)]; exact f1
    go_wp2_with fail
    refine wp_loop_rounds 1 ?_
    rw [rounds_succ]
    go_wp2_with fail
    refine wp_loop_rounds 1 ?_
    rw [rounds_succ]
    go_wp2_with fail
    refine bodyPost_ret (v := .tuple #[.agg #[.int .i64 1, .slice none 0 0], .nilIface]) (by simp [results, Tryz.results53, go_sem, y0, y1]) rfl ⟨Or.inl ⟨HFT.out, .slice none 0 0, by rw [HDD.out], ⟨rfl, Or.inl ⟨rfl, rfl⟩⟩⟩, ?_⟩
    exact ((HBA.out.alloc HBA.out.size _).setCell (by simp) _).setCell (by simp) _
  · have hI : InTold w w2 den b nn D g ks := by
      have hs4 := hb4.size
      simp at hs4
      refine ⟨?_, ?_, ?_, ?_, ?_, ?_, ?_, hb3.trans (hb4.mono (by simp; omega)), by omega, ?_⟩
      · rw [hb4.cell (p := ⟨w.heap.size, 0, none⟩) (by simp; omega), World.cell?_alloc_lt _ _ ⟨w.heap.size, 0, none⟩ (by simp; omega), World.cell?_alloc_lt _ _ ⟨w.heap.size, 0, none⟩ (by simp), World.cell?_alloc_at _ _ _ _ rfl]; rfl
      · rw [hb4.cell (p := ⟨w.heap.size, 1, none⟩) (by simp; omega), World.cell?_alloc_lt _ _ ⟨w.heap.size, 1, none⟩ (by simp; omega), World.cell?_alloc_lt _ _ ⟨w.heap.size, 1, none⟩ (by simp), World.cell?_alloc_at _ _ _ _ rfl]; rfl
      · rw [hb4.cell (p := ⟨w.heap.size + 1, 0, none⟩) (by simp), World.cell?_alloc_lt _ _ ⟨w.heap.size + 1, 0, none⟩ (by simp), World.cell?_alloc_at _ _ _ _ (by simp)]; rfl
      · rw [hb4.cell (p := ⟨w.heap.size + 1, 1, none⟩) (by simp), World.cell?_alloc_lt _ _ ⟨w.heap.size + 1, 1, none⟩ (by simp), World.cell?_alloc_at _ _ _ _ (by simp)]; rfl
      · rw [hb4.frozen (p := ⟨w.heap.size + 1, 0, none⟩) (by simp), World.frozen?_alloc_old _ _ ⟨w.heap.size + 1, 0, none⟩ (by simp)]; exact frozen_new (by simp)
      · rw [hb4.frozen (p := ⟨w.heap.size + 1, 1, none⟩) (by simp), World.frozen?_alloc_old _ _ ⟨w.heap.size + 1, 1, none⟩ (by simp)]; exact frozen_new (by simp)
      · exact ownsMap_later hown ((hb4.block b (by simp; omega)).trans (hb3.block b hbl))
      · intro i hi
        have : w2.cell? ⟨g, i, none⟩ = cur[i]? := by simp [World.cell?, hgb]
        have h5 : cur.toList[i]? = (ks.map encZ)[i]? := by rw [← r4, List.getElem?_take_of_lt (by omega)]
        rw [this, ← Array.getElem?_toList, h5]
        simp [encZ, hi]
    have HI : Hid (InTold w w2 den b nn D g ks) := hI
    clear hI hrow hnil hgb r4 r3 hb4 hb3
    have x0 := HI.out.box0
    go_wp2_with fail
    clear x0
    go_loopw [5, 20] (fun t i wr => ∃ k : Nat, k ≤ ks.length ∧ t = .int .i64 (gcdL den cf ks k) ∧ i = .int .i64 k ∧ Hid (InTold w wr den b nn D g ks)) (fun _ i _ => ks.length - (intOf i).toNat)
    case atStart => exact ⟨0, Nat.zero_le _, by show _ = Value.int IntKind.i64 ((den.natAbs : Nat) : Int); congr 1; omega, rfl, HI⟩
    case round =>
      clear HI
      obtain ⟨k, hk, rfl, rfl, HI⟩ := hrel
      have hgp := gcdTo_pos den (fun i => cf (ks.getD i 0)) hd1 k
      have HGP : Hid (1 ≤ gcdL den cf ks k ∧ gcdL den cf ks k ≤ den.natAbs) := hgp
      clear hgp
      have hg1 : 1 ≤ gcdL den cf ks k := HGP.out.1
      have hg2 : (gcdL den cf ks k : Int) ≤ 1000000000000 := by have := HGP.out.2; omega
      have x0 := HI.out.box0
      have x1 := HI.out.box1
      by_cases hlt : k < ks.length
      · have hck := HI.out.keys k hlt
        have hc1 := (HCF.out (ks.getD k 0)).1
        have hc2 := (HCF.out (ks.getD k 0)).2
        have hmem : ks.getD k 0 ∈ ks := by
          rw [List.getD_eq_getElem?_getD, List.getElem?_eq_getElem hlt]; exact List.getElem_mem hlt
        have hkey : keyOf Tryz.prog 3 (.int .i64 (ks.getD k 0)) = some (.int .i64 (ks.getD k 0)) := keyOf_int_mk Tryz.underlying3 (HWF.out _ hmem)
        have HKEY : Hid (keyOf Tryz.prog 3 (.int .i64 (ks.getD k 0)) = some (.int .i64 (ks.getD k 0))) := hkey
        obtain ⟨p, hp⟩ : ∃ p, p = ks.getD k 0 := ⟨_, rfl⟩
        have HP : Hid (p = ks.getD k 0) := hp
        rw [← hp] at hck hc1 hc2 HKEY
        clear hkey hmem hp
        go_wp2_with (first
          | (at_lookup; go_must (refine wpList_lookup_own_int _ rfl _ _ 84 rfl 3 3 .i64 Tryz.lawInt Tryz.underlying84 Tryz.underlying3 (Tryz.zeroInt _) b nn D rfl HI.out.own _ _ rfl HKEY.out ?_; intro c hat hwc; have hcc := coef_of HAT.out hat; clear hat hwc; subst hcc))
          | (go_at_call 55; refine (GCD_any _ _ _ (by omega) (by omega) (by omega) (by omega)).mono ?_; rintro e w' ⟨rfl, mm, rfl⟩))
        exact ⟨⟨k + 1, by omega, by show _ = Value.int IntKind.i64 ((Int.gcd (gcdL den cf ks k : Int) (cf (ks.getD k 0)) : Nat) : Int); rw [← HP.out], by go_num, HI.out.drewN mm⟩, by simp [intOf]; omega⟩
      · obtain rfl : k = ks.length := by omega
        have HG' := HG.out
        rw [HG'] at hg1 hg2 HGP ⊢
        clear HG'
        obtain ⟨i0, hi, hz0, hz1, hz2⟩ := info_parts Tryz.infoTerm
        have HINF : Hid (Tryz.prog.info? 90 = some i0 ∧ i0.zero = some (.agg #[.int .i64 0, .int .i64 0]) ∧ i0.size = 2 ∧ i0.bytes = 16) := ⟨hi, hz0, hz1, hz2⟩
        clear hi hz0 hz1 hz2
        have HS0 : Hid (InOut wr (wr.alloc (.cells #[.int .i64 (den / (G : Int)), .slice none 0 0] 27)) (den / (G : Int)) (.slice none 0 0) 0 []) := InOut.start wr _
        have hdq0 : 0 ≤ den / (G : Int) := Int.ediv_nonneg (by omega) (by omega)
        have HIN : Hid (InTold w wr den b nn D g ks) := HI.out
        clear HI
        by_cases hdq : den / (G : Int) ≤ 1000000
        case neg =>
          have hff : fit = false := not_true_of HFIT.out (fun h => hdq h.1)
          have hdq2 : den / (G : Int) ≤ 1000000000000 := Int.le_trans (Int.ediv_le_self _ (by omega)) hd2
          have hdq3 : 1000000 < den / (G : Int) := by omega
          have hbg := HIN.out.big
          have y0 : ∀ X, (wr.alloc X).cell? ⟨w.heap.size + 1, 0, none⟩ = some (.int .i64 0) := fun X => by rw [World.cell?_alloc_lt _ _ ⟨w.heap.size + 1, 0, none⟩ (cell_lt HIN.out.res0)]; exact HIN.out.res0
          have y1 : ∀ X, (wr.alloc X).cell? ⟨w.heap.size + 1, 1, none⟩ = some (.slice none 0 0) := fun X => by rw [World.cell?_alloc_lt _ _ ⟨w.heap.size + 1, 1, none⟩ (cell_lt HIN.out.res1)]; exact HIN.out.res1
          have g0 : ∀ X, (wr.alloc X).frozen? ⟨w.heap.size + 1, 0, none⟩ = false := fun X => by rw [World.frozen?_alloc_old _ _ ⟨w.heap.size + 1, 0, none⟩ (Nat.ne_of_lt (cell_lt HIN.out.res0))]; exact HIN.out.fr0
          have g1 : ∀ X, (wr.alloc X).frozen? ⟨w.heap.size + 1, 1, none⟩ = false := fun X => by rw [World.frozen?_alloc_old _ _ ⟨w.heap.size + 1, 1, none⟩ (Nat.ne_of_lt (cell_lt HIN.out.res1))]; exact HIN.out.fr1
          have ye : ∀ X, (wr.alloc X).cell? ⟨0, 0, none⟩ = some (.iface 183 (.pointer (some (a 1)))) := fun X => (HERR.out.below (HIN.out.below.alloc HIN.out.below.size X)).c1
          have ys : ∀ X, ((wr.alloc X).setCell ⟨w.heap.size + 1, 0, none⟩ (.int .i64 0)).cell? ⟨0, 0, none⟩ = some (.iface 183 (.pointer (some (a 1)))) := fun X => by rw [World.cell?_setCell_other _ _ _ _ (fun e => by have h : 0 < w.heap.size := cell_lt HERR.out.c1; have e' : w.heap.size + 1 = 0 := congrArg Addr.block e; omega)]; exact ye X
          clear hdq
          go_wp2_with fail
          go_region
          go_wp2_with fail
          refine bodyPost_ret (v := .tuple #[.agg #[.int .i64 0, .slice none 0 0], .iface 183 (.pointer (some (a 1)))]) (by simp [results, Tryz.results53, go_sem, y0, y1]) rfl ⟨Or.inr ⟨hff, rfl⟩, ?_⟩
          exact (((HIN.out.below.alloc HIN.out.below.size _).setCell (by simp) _).setCell (by simp) _).drew
        go_wp2_with fail
        clear x0 x1
        obtain ⟨w1, hw1⟩ : ∃ w1, w1 = wr := ⟨_, rfl⟩
        rw [← hw1] at HS0 HIN ⊢
        clear hw1
        go_loopw [43] (fun i wr => ∃ (k : Nat) (sv : Value), k ≤ ks.length ∧ i = .int .i64 k ∧ Hid (∀ x ∈ ks.take k, (quo cf G x).natAbs ≤ 1099511627776) ∧ Hid (InOut w1 wr (den / (G : Int)) sv (countOf (quo cf G) (ks.take k)) (termsOf (quo cf G) (ks.take k)))) (fun i _ => ks.length - (intOf i).toNat)
        case atStart => exact ⟨0, .slice none 0 0, Nat.zero_le _, rfl, (fun x hx => by simp at hx), HS0.out⟩
        case round =>
          clear HS0
          obtain ⟨k, sv, hk, rfl, HAL, HO⟩ := hrel
          have HI : Hid (InTold w wr den b nn D g ks) := HIN.out.later HO.out.keep
          have x0 := HI.out.box0
          have x1 := HI.out.box1
          have y0 := HO.out.o0
          have y1 := HO.out.o1
          have yf := HO.out.fz
          by_cases hlt : k < ks.length
          · have hck := HI.out.keys k hlt
            have hmem : ks.getD k 0 ∈ ks := by
              rw [List.getD_eq_getElem?_getD, List.getElem?_eq_getElem hlt]; exact List.getElem_mem hlt
            have HKEY : Hid (keyOf Tryz.prog 3 (.int .i64 (ks.getD k 0)) = some (.int .i64 (ks.getD k 0))) := keyOf_int_mk Tryz.underlying3 (HWF.out _ hmem)
            have hc1 := (HCF.out (ks.getD k 0)).1
            have hc2 := (HCF.out (ks.getD k 0)).2
            obtain ⟨p, hp⟩ : ∃ p, p = ks.getD k 0 := ⟨_, rfl⟩
            have HP : Hid (p = ks.getD k 0) := hp
            rw [← hp] at hck HKEY hc1 hc2
            have HMEM : Hid (p ∈ ks) := by rw [← hp] at hmem; exact hmem
            clear hmem hp
            obtain ⟨q, hqq⟩ : ∃ q, q = quo cf G p := ⟨_, rfl⟩
            have HQQ : Hid (q = quo cf G p) := hqq
            have hqe : (cf p).tdiv (G : Int) = q := hqq.symm
            clear hqq
            have htake : Hid (ks.take (k + 1) = ks.take k ++ [p]) := by
              show _ = _
              rw [List.take_succ_eq_append_getElem hlt, HP.out, List.getD_eq_getElem?_getD, List.getElem?_eq_getElem hlt]
              rfl
            by_cases hqb : q.natAbs ≤ 1099511627776
            case neg =>
              have hff : fit = false := not_true_of HFIT.out (fun h => hqb (by have := h.2 p HMEM.out; rwa [← HQQ.out] at this))
              have hqs : q.natAbs ≤ (cf p).natAbs := by rw [← hqe]; exact Int.natAbs_tdiv_le_natAbs _ _
              have hqB : (1099511627776 : Int) < (q.natAbs : Int) := by omega
              have z0 := HI.out.res0
              have z1 := HI.out.res1
              have f0 := HI.out.fr0
              have f1 := HI.out.fr1
              have ye := (HERR.out.below HI.out.below).c1
              have ys : (wr.setCell ⟨w.heap.size + 1, 0, none⟩ (.int .i64 0)).cell? ⟨0, 0, none⟩ = some (.iface 183 (.pointer (some (a 1)))) := by rw [World.cell?_setCell_other _ _ _ _ (fun e => by have h : 0 < w.heap.size := cell_lt HERR.out.c1; have e' : w.heap.size + 1 = 0 := congrArg Addr.block e; omega)]; exact ye
              clear hqb
              go_wp2_with (first
                | (at_lookup; go_must (refine wpList_lookup_own_int _ rfl _ _ 84 rfl 3 3 .i64 Tryz.lawInt Tryz.underlying84 Tryz.underlying3 (Tryz.zeroInt _) b nn D rfl HI.out.own _ _ rfl HKEY.out ?_; intro c hat hwc; have hcc := coef_of HAT.out hat; clear hat hwc; subst hcc))
                | (go_at_call 77; refine (size_any _ _ (by omega) (by omega)).mono ?_; rintro e w' ⟨rfl, hw'⟩; rw [hw']; clear hw'))
              go_region
              go_wp2_with fail
              refine bodyPost_ret (v := .tuple #[.agg #[.int .i64 0, .slice none 0 0], .iface 183 (.pointer (some (a 1)))]) (by simp [results, Tryz.results53, go_sem, z0, z1]) rfl ⟨Or.inr ⟨hff, rfl⟩, ?_⟩
              exact ((HI.out.below.setCell (by simp) _).setCell (by simp) _).drew
            by_cases hq0 : q = 0
            · subst hq0
              go_wp2_with (first
                | (at_lookup; go_must (refine wpList_lookup_own_int _ rfl _ _ 84 rfl 3 3 .i64 Tryz.lawInt Tryz.underlying84 Tryz.underlying3 (Tryz.zeroInt _) b nn D rfl HI.out.own _ _ rfl HKEY.out ?_; intro c hat hwc; have hcc := coef_of HAT.out hat; clear hat hwc; subst hcc))
                | (go_at_call 77; refine (size_any _ _ (by omega) (by omega)).mono ?_; rintro e w' ⟨rfl, hw'⟩; rw [hw']; clear hw'))
              exact ⟨⟨k + 1, sv, by omega, by go_num, all_next htake.out HAL.out (by rw [← HQQ.out]; omega), by
                show InOut _ _ _ _ _ _
                rw [htake.out, termsOf_append, countOf_append]
                have h0 : quo cf G p = 0 := HQQ.out.symm
                simpa [termsOf, countOf, h0] using HO.out⟩, by simp [intOf]; omega⟩
            · have hqn : (q != 0) = true := by simp [hq0]
              have HQ0 : Hid (¬ q = 0) := hq0
              clear hq0
              have hcn := countOf_le (quo cf G) (ks.take k)
              have hcn2 : countOf (quo cf G) (ks.take k) ≤ 100000 := by have := List.length_take_le k ks; omega
              have HSZ : Hid (w1.heap.size < wr.heap.size) := cell_lt HO.out.o0
              have hsz := HSZ.out
              go_wp2_with (first
                | (at_lookup; go_must (refine wpList_lookup_own_int _ rfl _ _ 84 rfl 3 3 .i64 Tryz.lawInt Tryz.underlying84 Tryz.underlying3 (Tryz.zeroInt _) b nn D rfl HI.out.own _ _ rfl HKEY.out ?_; intro c hat hwc; have hcc := coef_of HAT.out hat; clear hat hwc; subst hcc))
                | (go_at_call 77; refine (size_any _ _ (by omega) (by omega)).mono ?_; rintro e w' ⟨rfl, hw'⟩; rw [hw']; clear hw')
                | (at_builtin; go_must (refine wpList_append_lies _ rfl _ _ _ rfl (w1.heap.size + 1) 90 i0 _ 2 16 Tryz.underlying25 HINF.out.1 HINF.out.2.1 HINF.out.2.2.1 HINF.out.2.2.2 rfl (by omega) sv _ _ rfl (HO.out.row.alloc _) ⟨wr.heap.size, 0, none⟩ 1 1 [.int .i64 p, .int .i64 q] rfl rfl (two_new _ _ _ _) (by simp [Value.oneCell']) (by omega) (by unfold maxLen; omega) (by omega) (by simp; omega) _ rfl ?_; intro g' cap' w3 hown3 hgrow3 hat3 hlt3; obtain ⟨z1, z2, HP3⟩ := HO.out.pushed hgrow3 hown3; have HPU := Hid.mk' HP3; clear hown3 hgrow3 hat3 HP3)))
              exact ⟨⟨k + 1, _, by omega, by go_num, all_next htake.out HAL.out (by rw [← HQQ.out]; omega), by
                show InOut _ _ _ _ _ _
                rw [htake.out, termsOf_append, countOf_append]
                have h0 : quo cf G p = q := HQQ.out.symm
                have h1 : ¬ q = 0 := HQ0.out
                simpa [termsOf, countOf, h0, h1] using HPU.out⟩, by simp [intOf]; omega⟩
          · obtain rfl : k = ks.length := by omega
            have z0 := HI.out.res0
            have z1 := HI.out.res1
            have f0 := HI.out.fr0
            have f1 := HI.out.fr1
            have hlt1 : w.heap.size + 1 < w1.heap.size := by have := HIN.out.big; omega
            have hfull : ks.take ks.length = ks := List.take_length
            have HOO : Hid (InOut w1 wr (den / (G : Int)) sv (countOf (quo cf G) ks) (termsOf (quo cf G) ks)) := by have := HO.out; rwa [hfull] at this
            have HFT : Hid (fit = true) := HFIT.out.2 ⟨hdq, by have := HAL.out; rwa [hfull] at this⟩
            clear hfull HO
            obtain ⟨ad, n', c', rfl⟩ : ∃ ad n' c', sv = .slice ad n' c' := by
              rcases HOO.out.row.2 with ⟨rfl, _⟩ | ⟨gg, cap', cur', rfl, _⟩
              · exact ⟨_, _, _, rfl⟩
              · exact ⟨_, _, _, rfl⟩
            go_wp2_with fail
            refine bodyPost_ret (v := .tuple #[.agg #[.int .i64 (den / (G : Int)), .slice ad n' c'], .nilIface]) (by simp [results, Tryz.results53, go_sem, z0, z1]) rfl ⟨Or.inl ⟨HFT.out, .slice ad n' c', rfl, ?_⟩, ?_⟩
            · have h1 := ownsRow_setCell_below HOO.out.row (a := ⟨w.heap.size + 1, 0, none⟩) (by show w.heap.size + 1 < _; omega) (.int .i64 (den / (G : Int)))
              have h2 := ownsRow_setCell_below h1 (a := ⟨w.heap.size + 1, 1, none⟩) (by show w.heap.size + 1 < _; omega) (.slice ad n' c')
              exact row_base h2 (by omega)
            · exact (HI.out.below.setCell (by simp) _).setCell (by simp) _
end Go.Proofs.YtklhfagcembigaaGreatDoor

/- logs.Add in general: ErrShape, ErrBound, or the sum in form. -/
namespace Go.Proofs.YtklhfagcembigaaGreatDoor
open Go.RowKit Go.Maps

theorem some_bool (P : Prop) : ∃ b : Bool, b = true ↔ P := by
  by_cases h : P
  · exact ⟨true, ⟨fun _ => h, fun _ => rfl⟩⟩
  · exact ⟨false, ⟨(fun e => by cases e), (fun e => absurd e h)⟩⟩
/-- Has a sum a form? -/
def Fits (den : Int) (G : Nat) (l : List (Int × Int)) : Prop := den / (G : Int) ≤ 1000000 ∧ ∀ e ∈ l, (e.2.tdiv (G : Int)).natAbs ≤ 1099511627776
/-- told by lists, in general. -/
theorem told_list_any (den : Int) (b nn : Nat) (l : List (Int × Int)) (w : World) (hown : w.ownsMap Tryz.prog 3 (plainElem (H := Unit) Tryz.prog 3) b nn (mapOf l)) (hr : Rising l) (hk : ∀ e ∈ l, 2 ≤ e.1 ∧ e.1 ≤ 1000000) (hlen : l.length ≤ 100000)
    (hb : ∀ x, -2305843009213693952 ≤ atL l x ∧ atL l x ≤ 2305843009213693952) (hd1 : 1 ≤ den) (hd2 : den ≤ 1000000000000) (G : Nat) (hG : gcdL den (atL l) (l.map Prod.fst) l.length = G) (a : Nat → Addr) (hE : Errs w a) (fit : Bool) (hfit : fit = true ↔ Fits den G l) :
    Calls Tryz.prog 53 #[.agg #[.int .i64 den, .map (some b)]] w fun e w' => ((fit = true ∧ ∃ v, e = .returned (.tuple #[.agg #[.int .i64 (den / (G : Int)), v], .nilIface]) ∧ w'.ownsRow w.heap.size 90 2 v (overL G l).length (termCells (pOf (overL G l)) (cOf (overL G l)) (overL G l).length)) ∨ (fit = false ∧ e = .returned (.tuple #[.agg #[.int .i64 0, .slice none 0 0], .iface 183 (.pointer (some (a 1)))]))) ∧ Below w.heap.size w w' := by
  have hcf : ∀ e ∈ l, atL l e.1 = e.2 := fun e he => atL_mem hr he
  have ht := terms_flat (atL l) G l hcf
  have hfit' : fit = true ↔ (den / (G : Int) ≤ 1000000 ∧ ∀ x ∈ l.map Prod.fst, (quo (atL l) G x).natAbs ≤ 1099511627776) := hfit.trans ⟨fun h => ⟨h.1, fun x hx => by obtain ⟨e, he, rfl⟩ := List.mem_map.1 hx; unfold quo; rw [hcf e he]; exact h.2 e he⟩, fun h => ⟨h.1, fun e he => by have := h.2 e.1 (List.mem_map.2 ⟨e, he, rfl⟩); unfold quo at this; rw [hcf e he] at this; exact this⟩⟩
  have := told_any den b nn (mapOf l) (atL l) (l.map Prod.fst) w hown (at_map l) (sort_keys hr) (by rw [size_map]; exact hlen) (by rw [List.length_map]; exact hlen)
    (fun x hx => by obtain ⟨e, he, rfl⟩ := List.mem_map.1 hx; have := hk e he; exact wf_int (by omega)) hd1 hd2 hb G (by rw [List.length_map]; exact hG) a hE fit hfit'
  rw [ht.1, ht.2, flat_cells] at this
  exact this

/-- Two boxes and a result. -/
theorem three_cells (w : World) (x0 x1 y0 y1 r0 r1 : Value) (t : TypeId) :
    ((((w.alloc (.cells #[x0, x1] t)).alloc (.cells #[y0, y1] t)).alloc (.cells #[r0, r1] t)).cell? ⟨w.heap.size, 0, none⟩ = some x0 ∧ (((w.alloc (.cells #[x0, x1] t)).alloc (.cells #[y0, y1] t)).alloc (.cells #[r0, r1] t)).cell? ⟨w.heap.size, 1, none⟩ = some x1) ∧ ((((w.alloc (.cells #[x0, x1] t)).alloc (.cells #[y0, y1] t)).alloc (.cells #[r0, r1] t)).cell? ⟨w.heap.size + 1, 0, none⟩ = some y0 ∧ (((w.alloc (.cells #[x0, x1] t)).alloc (.cells #[y0, y1] t)).alloc (.cells #[r0, r1] t)).cell? ⟨w.heap.size + 1, 1, none⟩ = some y1) ∧ ((((w.alloc (.cells #[x0, x1] t)).alloc (.cells #[y0, y1] t)).alloc (.cells #[r0, r1] t)).cell? ⟨w.heap.size + 1 + 1, 0, none⟩ = some r0 ∧ (((w.alloc (.cells #[x0, x1] t)).alloc (.cells #[y0, y1] t)).alloc (.cells #[r0, r1] t)).cell? ⟨w.heap.size + 1 + 1, 1, none⟩ = some r1) ∧ (((w.alloc (.cells #[x0, x1] t)).alloc (.cells #[y0, y1] t)).alloc (.cells #[r0, r1] t)).frozen? ⟨w.heap.size + 1 + 1, 0, none⟩ = false ∧ (((w.alloc (.cells #[x0, x1] t)).alloc (.cells #[y0, y1] t)).alloc (.cells #[r0, r1] t)).frozen? ⟨w.heap.size + 1 + 1, 1, none⟩ = false := by
  refine ⟨⟨?_, ?_⟩, ⟨?_, ?_⟩, ⟨?_, ?_⟩, frozen_new (by simp), frozen_new (by simp)⟩
  · rw [World.cell?_alloc_lt _ _ ⟨w.heap.size, 0, none⟩ (by simp; omega), World.cell?_alloc_lt _ _ ⟨w.heap.size, 0, none⟩ (by simp), World.cell?_alloc_at _ _ _ _ rfl]; rfl
  · rw [World.cell?_alloc_lt _ _ ⟨w.heap.size, 1, none⟩ (by simp; omega), World.cell?_alloc_lt _ _ ⟨w.heap.size, 1, none⟩ (by simp), World.cell?_alloc_at _ _ _ _ rfl]; rfl
  · rw [World.cell?_alloc_lt _ _ ⟨w.heap.size + 1, 0, none⟩ (by simp), World.cell?_alloc_at _ _ _ _ (by simp)]; rfl
  · rw [World.cell?_alloc_lt _ _ ⟨w.heap.size + 1, 1, none⟩ (by simp), World.cell?_alloc_at _ _ _ _ (by simp)]; rfl
  · rw [World.cell?_alloc_at _ _ _ _ (by simp)]; rfl
  · rw [World.cell?_alloc_at _ _ _ _ (by simp)]; rfl

set_option maxRecDepth 100000 in
set_option maxHeartbeats 2000000 in
theorem Add_any (da db : Nat) (ad1 ad2 : Option Addr) (cap1 cap2 : Nat) (t1 t2 : List (Int × Int)) (a : Nat → Addr) (w : World) (h : Errs w a) (hl1 : LogAt w (.slice ad1 t1.length cap1) t1.length (pOf t1) (cOf t1)) (hl2 : LogAt w (.slice ad2 t2.length cap2) t2.length (pOf t2) (cOf t2))
    (hok1 : OkLog da t1.length (pOf t1) (cOf t1)) (hok2 : OkLog db t2.length (pOf t2) (cOf t2)) (hn : t1.length + t2.length ≤ 10000) (g : Nat) (hg : g = Int.gcd (da : Int) (db : Int)) :
    Calls Tryz.prog 40 #[.agg #[.int .i64 da, .slice ad1 t1.length cap1], .agg #[.int .i64 db, .slice ad2 t2.length cap2]] w fun e w' => (∃ (l : List (Int × Int)) (G : Nat), Rising l ∧ (∀ x, atL l x = atL t1 x * ((db / g : Nat) : Int) + atL t2 x * ((da / g : Nat) : Int)) ∧ gcdL ((da / g * db : Nat) : Int) (atL l) (l.map Prod.fst) l.length = G ∧ l.length ≤ t1.length + t2.length ∧
      ((Fits ((da / g * db : Nat) : Int) G l ∧ ∃ v, e = .returned (.tuple #[.agg #[.int .i64 (((da / g * db : Nat) : Int) / (G : Int)), v], .nilIface]) ∧ ListAt w' v (overL G l)) ∨ (¬ Fits ((da / g * db : Nat) : Int) G l ∧ e = .returned (.tuple #[.agg #[.int .i64 0, .slice none 0 0], .iface 183 (.pointer (some (a 1)))])))) ∧ Below w.heap.size w w' := by
  have hb0 : Below w.heap.size w (((w.alloc (.cells #[.int .i64 da, .slice ad1 t1.length cap1] 27)).alloc (.cells #[.int .i64 db, .slice ad2 t2.length cap2] 27)).alloc (.cells #[.int .i64 0, .slice none 0 0] 27)) := (((Below.refl _ _).alloc (Nat.le_refl _) _).alloc (by simp) _).alloc (by simp; omega) _
  have hk0 : AddKeeps w.heap.size da db (.slice ad1 t1.length cap1) (.slice ad2 t2.length cap2) t1.length t2.length t1 t2 (((w.alloc (.cells #[.int .i64 da, .slice ad1 t1.length cap1] 27)).alloc (.cells #[.int .i64 db, .slice ad2 t2.length cap2] 27)).alloc (.cells #[.int .i64 0, .slice none 0 0] 27)) :=
    ⟨by rw [World.cell?_alloc_lt _ _ ⟨w.heap.size, 0, none⟩ (by simp; omega), World.cell?_alloc_lt _ _ ⟨w.heap.size, 0, none⟩ (by simp), World.cell?_alloc_at _ _ _ _ rfl]; rfl,
     by rw [World.cell?_alloc_lt _ _ ⟨w.heap.size, 1, none⟩ (by simp; omega), World.cell?_alloc_lt _ _ ⟨w.heap.size, 1, none⟩ (by simp), World.cell?_alloc_at _ _ _ _ rfl]; rfl,
     by rw [World.cell?_alloc_lt _ _ ⟨w.heap.size + 1, 0, none⟩ (by simp), World.cell?_alloc_at _ _ _ _ (by simp)]; rfl,
     by rw [World.cell?_alloc_lt _ _ ⟨w.heap.size + 1, 1, none⟩ (by simp), World.cell?_alloc_at _ _ _ _ (by simp)]; rfl,
     by rw [World.cell?_alloc_at _ _ _ _ (by simp)]; rfl, by rw [World.cell?_alloc_at _ _ _ _ (by simp)]; rfl, frozen_new (by simp), frozen_new (by simp), hl1.later hb0, hl2.later hb0⟩
  generalize hW0 : (((w.alloc (.cells #[.int .i64 da, .slice ad1 t1.length cap1] 27)).alloc (.cells #[.int .i64 db, .slice ad2 t2.length cap2] 27)).alloc (.cells #[.int .i64 0, .slice none 0 0] 27)) = W0 at hb0 hk0
  have hv1 := Valid_log da _ t1.length (pOf t1) (cOf t1) a true ⟨fun _ => hok1, fun _ => rfl⟩ W0 (h.below hb0) hk0.l1 (by omega)
  simp only [shapeErr] at hv1
  have HE := Hid.mk' (h.below hb0)
  have HERR := Hid.mk' h
  have HK0 := Hid.mk' hk0
  have HB0 := Hid.mk' hb0
  have HW0 := Hid.mk' hW0
  have HO1 := Hid.mk' hok1
  have HO2 := Hid.mk' hok2
  have HG := Hid.mk' hg
  have hd1 : 1 ≤ da ∧ da ≤ 1000000 := by have := hok1.1; have := hok1.2.1; omega
  have hd2 : 1 ≤ db ∧ db ≤ 1000000 := by have := hok2.1; have := hok2.2.1; omega
  clear h hl1 hl2 hok1 hok2 hb0 hk0 hW0 hg
  go_enter Tryz.func40, Tryz.ntmps40
  go_wp2_with fail
  rw [HW0.out]
  refine hv1.mono ?_
  clear hv1 HW0
  rintro e w1 ⟨rfl, hb1⟩
  have HK1 := Hid.mk' (HK0.out.later hb1)
  have c1 := HK1.out.b0
  have c2 := HK1.out.b1
  have hv2 := Valid_log db _ t2.length (pOf t2) (cOf t2) a true ⟨fun _ => HO2.out, fun _ => rfl⟩ w1 (HE.out.below hb1) HK1.out.l2 (by omega)
  simp only [shapeErr] at hv2
  have HB1 := Hid.mk' (below_chain HB0.out hb1)
  clear hb1 HK0 HB0 HE
  go_wp2_with fail
  refine hv2.mono ?_
  clear hv2 c1 c2
  rintro e w2 ⟨rfl, hb2⟩
  have HK2 := Hid.mk' (HK1.out.later hb2)
  have HB2 := Hid.mk' (below_chain HB1.out hb2)
  have c0 := HK2.out.a0
  have c1 := HK2.out.b0
  clear hb2 HK1 HB1
  have hg1 : 1 ≤ g ∧ g ≤ da ∧ g ≤ db := by
    rw [HG.out]
    have h1 : Int.gcd (da : Int) (db : Int) ≤ da := Nat.gcd_le_left _ (by simp; omega)
    have h2 : Int.gcd (da : Int) (db : Int) ≤ db := Nat.gcd_le_right _ (by simp; omega)
    have h3 : 0 < Int.gcd (da : Int) (db : Int) := Nat.gcd_pos_of_pos_left _ (by simp; omega)
    exact ⟨h3, h1, h2⟩
  have hgcd := GCD_any (da : Int) (db : Int) w2 (by omega) (by omega) (by omega) (by omega)
  rw [← HG.out] at hgcd
  go_wp2_with fail
  refine hgcd.mono ?_
  clear hgcd
  rintro e w3 ⟨rfl, m3, hw3⟩
  have hb3 : Below w2.heap.size w2 w3 := by rw [hw3]; exact below_drewN (Below.refl _ _) _
  have HK3 := Hid.mk' (HK2.out.later hb3)
  have HB3 := Hid.mk' (below_chain HB2.out hb3)
  clear hw3 hb3 HK2 HB2 c0 c1
  have hcur0 : Below w3.heap.size w3 w3 := Below.refl _ _
  have hcur : Below w3.heap.size w3 w3.drew := (Below.refl _ _).drew
  have hgn : ¬ g = 0 := by omega
  have hqa := quo_i64 (b := g) hd1.2
  have hqb := quo_i64 (b := g) hd2.2
  have HQ := Hid.mk' (And.intro hqa hqb)
  have hda : da / g ≤ 1000000 := Nat.le_trans (Nat.div_le_self _ _) hd1.2
  have hdb : db / g ≤ 1000000 := Nat.le_trans (Nat.div_le_self _ _) hd2.2
  clear hqa hqb
  have e1 : (da : Int).tdiv (g : Int) = ((da / g : Nat) : Int) := by simp
  have e2 : IntKind.i64.wrap ((da : Int).tdiv (g : Int)) = ((da / g : Nat) : Int) := by rw [e1, IntKind.wrap_i64]; generalize da / g = q at hda; omega
  have e3 : IntKind.i64.wrap (((da / g : Nat) : Int) * (db : Int)) = ((da / g * db : Nat) : Int) := by
    have := Nat.mul_le_mul hda hd2.2
    rw [← Int.natCast_mul, IntKind.wrap_i64]
    generalize da / g * db = q at this
    omega
  have HKS : Hid (∀ W, Below w3.heap.size w3 W → W.cell? ⟨w.heap.size, 0, none⟩ = some (.int .i64 da) ∧ W.cell? ⟨w.heap.size + 1, 0, none⟩ = some (.int .i64 db)) := fun W hb => ⟨(HK3.out.later hb).a0, (HK3.out.later hb).b0⟩
  have eD : IntKind.i64.wrap (IntKind.i64.wrap ((da : Int) / (g : Int)) * (db : Int)) = ((da / g * db : Nat) : Int) := by
    rw [show IntKind.i64.wrap ((da : Int) / (g : Int)) = ((da / g : Nat) : Int) from HQ.out.1]; exact e3
  have hDb : da / g * db ≤ 1000000000000 := Nat.le_trans (Nat.mul_le_mul hda hd2.2) (by decide)
  have hDp : 1 ≤ da / g * db := Nat.mul_pos (Nat.div_pos hg1.2.1 hg1.1) hd2.1
  obtain ⟨D, hD⟩ : ∃ D, D = da / g * db := ⟨_, rfl⟩
  rw [← hD] at eD hDb hDp
  have HDD := Hid.mk' hD
  have HED := Hid.mk' eD
  clear e1 e2 e3 eD hD
  have hcurA : ∀ X, Below w3.heap.size w3 (w3.alloc X).drew := fun X => (below_alloc hcur0 X).drew
  go_wp2_with fail
  go_cut [9] from 27 (fun s wx => ∃ Bs mb : Nat, s = .pointer (some ⟨Bs, 0, none⟩) ∧ Hid (SumBox w3 wx Bs mb (D : Int)))
  case first =>
    go_region_held3 (fun W => W.cell? ⟨w.heap.size, 0, none⟩ = some (.int .i64 da) ∧ W.cell? ⟨w.heap.size + 1, 0, none⟩ = some (.int .i64 db))
      (first | (refine HKS.out _ ?_; assumption) | exact HKS.out _ (hcurA _) | (refine HKS.out _ (below_alloc ?_ _); assumption) | exact HKS.out _ (below_set hc4 _ _))
      (first
        | (go_at_call 51; refine (newSum_any _ _).mono ?_; rintro e w4 ⟨rfl, hown4, hb4⟩; have hc4 := below_chain hcur hb4)
        | (go_at_call 51; refine (newSum_any _ _).mono ?_; rintro e w4 ⟨rfl, hown4, hb4⟩; have hc4 := below_chain (hcurA _) hb4; obtain ⟨x0, x1, x2, x3⟩ := box_past hb4))
    · go_wp2_with fail
      go_meet
      rw [HED.out]
      exact ⟨_, _, rfl, sumBox_late hown4 hc4⟩
    · go_wp2_with fail
      go_meet
      rw [HED.out]
      exact ⟨_, _, rfl, sumBox_soon (by simpa using hown4) hc4 x0 x1⟩
  case rest =>
  obtain ⟨Bs, mb, rfl, HSB⟩ := hcut
  have hmb := HSB.out.hm
  have hBs := HSB.out.hB
  have hbsm : Bs ≠ mb := fun e => by have h1 := HSB.out.s0; rw [e, map_no_cell HSB.out.own] at h1; cases h1
  have hAK := fun (W : World) (hb : Below w3.heap.size w3 W) => HK3.out.later hb
  have HAK := Hid.mk' hAK
  have hm1 : 0 ≤ IntKind.i64.wrap ((db : Int) / (g : Int)) ∧ IntKind.i64.wrap ((db : Int) / (g : Int)) ≤ 1000000 := by rw [HQ.out.2]; generalize db / g = q at hdb; omega
  have hm2 : 0 ≤ IntKind.i64.wrap ((da : Int) / (g : Int)) ∧ IntKind.i64.wrap ((da : Int) / (g : Int)) ≤ 1000000 := by rw [HQ.out.1]; generalize da / g = q at hda; omega
  have HM2 := Hid.mk' hm2
  have HM1 := Hid.mk' hm1
  have hrise1 := HO1.out.rising
  have hrise2 := HO2.out.rising
  have HT1 : Hid (∀ e ∈ t1, 2 ≤ e.1 ∧ e.1 ≤ 1000000 ∧ -1099511627776 ≤ e.2 ∧ e.2 ≤ 1099511627776) := fun e he => by
    have h := HO1.out.mem e he
    exact ⟨h.2.2.2.2.1, h.1, h.2.2.1, h.2.2.2.1⟩
  have HT2 : Hid (∀ e ∈ t2, 2 ≤ e.1 ∧ e.1 ≤ 1000000 ∧ -1099511627776 ≤ e.2 ∧ e.2 ≤ 1099511627776) := fun e he => by
    have h := HO2.out.mem e he
    exact ⟨h.2.2.2.2.1, h.1, h.2.2.1, h.2.2.2.1⟩
  have HR1 := Hid.mk' hrise1
  have HR2 := Hid.mk' hrise2
  have hpt1 := putTerms_any (D : Int) (IntKind.i64.wrap ((db : Int) / (g : Int))) mb 0 ad1 cap1 [] t1 wc.drew (ownsMap_later HSB.out.own rfl) List.Pairwise.nil (fun e he => by cases he) (fun x => by simp [atL]) (HAK.out _ (HSB.out.below.drew)).l1 hrise1 HT1.out hm1 (by omega) (by omega)
  have HPT1 := Hid.mk' hpt1
  have hS9 : wc.cell? ⟨Bs, 0, none⟩ = some (.int .i64 (D : Int)) ∧ wc.cell? ⟨Bs, 1, none⟩ = some (.map (some mb)) ∧ wc.cell? ⟨w.heap.size, 1, none⟩ = some (.slice ad1 t1.length cap1) ∧ wc.cell? ⟨w.heap.size + 1, 0, none⟩ = some (.int .i64 db) := ⟨HSB.out.s0, HSB.out.s1, (HAK.out _ HSB.out.below).a1, (HAK.out _ HSB.out.below).b0⟩
  have HS9 := Hid.mk' hS9
  clear hpt1 hrise1 hrise2 hAK hS9 hm1 hm2 HK3 HKS
  go_wp2_with fail
  go_region_held3 (fun W => W.cell? ⟨Bs, 0, none⟩ = some (.int .i64 (D : Int)) ∧ W.cell? ⟨Bs, 1, none⟩ = some (.map (some mb)) ∧ W.cell? ⟨w.heap.size, 1, none⟩ = some (.slice ad1 t1.length cap1) ∧ W.cell? ⟨w.heap.size + 1, 0, none⟩ = some (.int .i64 db))
    (first | exact HS9.out | exact HS5.out)
    (first
      | (go_at_call 71; refine HPT1.out.mono ?_; rintro e w5 ⟨rfl, l1, hI1⟩; have HI1 := Hid.mk' hI1; have hB5 := grown_below HSB.out.below.drew hI1.grow hmb; have HS5 : Hid (w5.cell? ⟨Bs, 0, none⟩ = some (.int .i64 (D : Int)) ∧ w5.cell? ⟨Bs, 1, none⟩ = some (.map (some mb)) ∧ w5.cell? ⟨w.heap.size, 1, none⟩ = some (.slice ad1 t1.length cap1) ∧ w5.cell? ⟨w.heap.size + 1, 0, none⟩ = some (.int .i64 db)) := ⟨cell_beside hI1.grow HS9.out.1 hbsm, cell_beside hI1.grow HS9.out.2.1 hbsm, (HAK.out _ hB5).a1, (HAK.out _ hB5).b0⟩; clear hI1))
  have hB5 := grown_below HSB.out.below.drew HI1.out.grow hmb
  have hv1 : ∀ x, atL l1 x = atL t1 x * IntKind.i64.wrap ((db : Int) / (g : Int)) := fun x => by
    have := HI1.out.val x
    rw [List.take_length] at this
    simpa [atL] using this
  have hb1 : ∀ x, -1099511627776000000 ≤ atL l1 x ∧ atL l1 x ≤ 1099511627776000000 := fun x => by
    rw [hv1 x]
    exact prod_bd (atL_bound (B := 1099511627776) (by omega) (fun e he => ⟨(HT1.out e he).2.2.1, (HT1.out e he).2.2.2⟩) x) HM1.out
  have hln1 := HI1.out.len
  simp at hln1
  have hpt2 := putTerms_any (D : Int) (IntKind.i64.wrap ((da : Int) / (g : Int))) mb (0 + t1.length) ad2 cap2 l1 t2 w5.drew (ownsMap_later HI1.out.own rfl) HI1.out.rise HI1.out.keys hb1 (HAK.out _ hB5.drew).l2 HR2.out HT2.out HM2.out (by omega) (by omega)
  have HPT2 := Hid.mk' hpt2
  have HV1 := Hid.mk' hv1
  have HS7 : Hid (w5.cell? ⟨Bs, 0, none⟩ = some (.int .i64 (D : Int)) ∧ w5.cell? ⟨Bs, 1, none⟩ = some (.map (some mb)) ∧ w5.cell? ⟨w.heap.size + 1, 1, none⟩ = some (.slice ad2 t2.length cap2) ∧ w5.cell? ⟨w.heap.size, 0, none⟩ = some (.int .i64 da)) := ⟨HS5.out.1, HS5.out.2.1, (HAK.out _ hB5).b1, (HAK.out _ hB5).a0⟩
  have HB5 := Hid.mk' hB5
  clear hpt2 hv1 hb1 HS5 HS9 hB5
  go_wp2_with fail
  go_region_held3 (fun W => W.cell? ⟨Bs, 0, none⟩ = some (.int .i64 (D : Int)) ∧ W.cell? ⟨Bs, 1, none⟩ = some (.map (some mb)) ∧ W.cell? ⟨w.heap.size + 1, 1, none⟩ = some (.slice ad2 t2.length cap2) ∧ W.cell? ⟨w.heap.size, 0, none⟩ = some (.int .i64 da))
    (first | exact HS7.out | exact HS8.out)
    (first
      | (go_at_call 71; refine HPT2.out.mono ?_; rintro e w6 ⟨rfl, l2, hI2⟩; have HI2 := Hid.mk' hI2; have hB6 := grown_below HB5.out.drew hI2.grow hmb; have HS8 : Hid (w6.cell? ⟨Bs, 0, none⟩ = some (.int .i64 (D : Int)) ∧ w6.cell? ⟨Bs, 1, none⟩ = some (.map (some mb)) ∧ w6.cell? ⟨w.heap.size + 1, 1, none⟩ = some (.slice ad2 t2.length cap2) ∧ w6.cell? ⟨w.heap.size, 0, none⟩ = some (.int .i64 da)) := ⟨cell_beside hI2.grow HS7.out.1 hbsm, cell_beside hI2.grow HS7.out.2.1 hbsm, (HAK.out _ hB6).b1, (HAK.out _ hB6).a0⟩; clear hI2))
  have hB6 := grown_below HB5.out.drew HI2.out.grow hmb
  have hv2 : ∀ x, atL l2 x = atL t1 x * ((db / g : Nat) : Int) + atL t2 x * ((da / g : Nat) : Int) := fun x => by
    have h1 := HI2.out.val x
    rw [List.take_length, HV1.out x, HQ.out.1, HQ.out.2] at h1
    exact h1
  obtain ⟨G, hG⟩ : ∃ G, gcdL ((da / g * db : Nat) : Int) (atL l2) (l2.map Prod.fst) l2.length = G := ⟨_, rfl⟩
  have hln2 := HI2.out.len
  have hbd2 : ∀ x, -2305843009213693952 ≤ atL l2 x ∧ atL l2 x ≤ 2305843009213693952 := fun x => by
    have h1 := prod_bd (atL_bound (B := 1099511627776) (by omega) (fun e he => ⟨(HT1.out e he).2.2.1, (HT1.out e he).2.2.2⟩) x) HM1.out
    have h2 := prod_bd (atL_bound (B := 1099511627776) (by omega) (fun e he => ⟨(HT2.out e he).2.2.1, (HT2.out e he).2.2.2⟩) x) HM2.out
    rw [hv2 x, ← HQ.out.1, ← HQ.out.2]
    omega
  rw [← HDD.out] at hG
  obtain ⟨fit, hfit⟩ := some_bool (Fits (D : Int) G l2)
  have ht := told_list_any (D : Int) mb _ l2 w6 HI2.out.own HI2.out.rise HI2.out.keys (by omega) hbd2 (by omega) (by omega) G hG a (HERR.out.below (below_chain HB3.out hB6)) fit hfit
  have HRES := Hid.mk' (And.intro HI2.out.rise (And.intro hv2 (And.intro hG hln2)))
  have x0 := HS8.out.1
  have x1 := HS8.out.2.1
  have HB6 := Hid.mk' hB6
  have HFI := Hid.mk' hfit
  clear hv2 hG hfit hbd2 hB6 HS7 HS8
  go_wp2_with fail
  refine ht.mono ?_
  clear ht x0 x1
  rintro e w7 ⟨hres, hb7⟩
  have hB7 := below_chain HB6.out hb7
  have HA7 := Hid.mk' (HAK.out _ hB7)
  have c0 := HA7.out.r0
  have c1 := HA7.out.r1
  have d0 := HA7.out.f0
  have d1 := HA7.out.f1
  have HB8 := Hid.mk' (below_chain HB3.out hB7)
  have z3 := cell_lt (HAK.out w3 (Below.refl _ _)).r0
  simp only at z3
  have z6 := HB6.out.size
  clear hb7 hB7
  rcases hres with ⟨hft, v, rfl, hrow⟩ | ⟨hff, rfl⟩
  · have HR := Hid.mk' hrow
    obtain ⟨ad, n', c', rfl⟩ : ∃ ad n' c', v = .slice ad n' c' := by
      rcases hrow.2 with ⟨rfl, _⟩ | ⟨gg, cap', cur', rfl, _⟩
      · exact ⟨_, _, _, rfl⟩
      · exact ⟨_, _, _, rfl⟩
    clear hrow
    go_wp2_with fail
    refine bodyPost_ret (v := .tuple #[.agg #[.int .i64 ((D : Int) / (G : Int)), .slice ad n' c'], .nilIface]) (by simp [results, Tryz.results40, go_sem, c0, c1]) rfl ⟨⟨l2, G, HRES.out.1, HRES.out.2.1, by rw [← HDD.out]; exact HRES.out.2.2.1, by have := HRES.out.2.2.2; omega, Or.inl ⟨by rw [← HDD.out]; exact HFI.out.1 hft, .slice ad n' c', by rw [← HDD.out], ?_⟩⟩, ?_⟩
    · have h1 := ownsRow_setCell_below HR.out (a := ⟨w.heap.size + 1 + 1, 0, none⟩) (by show w.heap.size + 1 + 1 < _; omega) (.int .i64 ((D : Int) / (G : Int)))
      have h2 := ownsRow_setCell_below h1 (a := ⟨w.heap.size + 1 + 1, 1, none⟩) (by show w.heap.size + 1 + 1 < _; omega) (.slice ad n' c')
      exact ownAt_of_row h2
    · exact (HB8.out.setCell (by simp; omega) _).setCell (by simp; omega) _
  · go_wp2_with fail
    refine bodyPost_ret (v := .tuple #[.agg #[.int .i64 0, .slice none 0 0], .iface 183 (.pointer (some (a 1)))]) (by simp [results, Tryz.results40, go_sem, c0, c1]) rfl ⟨⟨l2, G, HRES.out.1, HRES.out.2.1, by rw [← HDD.out]; exact HRES.out.2.2.1, by have := HRES.out.2.2.2; omega, Or.inr ⟨by rw [← HDD.out]; exact (fun h => Bool.noConfusion ((HFI.out.2 h).symm.trans hff)), rfl⟩⟩, ?_⟩
    exact (HB8.out.setCell (by simp; omega) _).setCell (by simp; omega) _

set_option maxRecDepth 100000 in
set_option maxHeartbeats 2000000 in
/-- Add where one of the two is not in form. -/
theorem Add_shape (da db : Int) (v1 v2 : Value) (n1 n2 : Nat) (p1 c1 p2 c2 : Nat → Int) (a : Nat → Addr) (w : World) (h : Errs w a) (hl1 : LogAt w v1 n1 p1 c1) (hl2 : LogAt w v2 n2 p2 c2) (hn1 : n1 ≤ 1000000) (hn2 : n2 ≤ 1000000) (hbad : ¬ (OkLog da n1 p1 c1 ∧ OkLog db n2 p2 c2)) :
    Calls Tryz.prog 40 #[.agg #[.int .i64 da, v1], .agg #[.int .i64 db, v2]] w fun e w' => e = .returned (.tuple #[.agg #[.int .i64 0, .slice none 0 0], .iface 183 (.pointer (some (a 2)))]) ∧ Below w.heap.size w w' := by
  obtain ⟨ad1, m1, cap1, rfl⟩ : ∃ ad m cap, v1 = .slice ad m cap := by rcases hl1 with ⟨ad, cap, rfl, _⟩ | ⟨b, o, cap, rfl, _⟩ <;> exact ⟨_, _, _, rfl⟩
  obtain ⟨ad2, m2, cap2, rfl⟩ : ∃ ad m cap, v2 = .slice ad m cap := by rcases hl2 with ⟨ad, cap, rfl, _⟩ | ⟨b, o, cap, rfl, _⟩ <;> exact ⟨_, _, _, rfl⟩
  have hb0 : Below w.heap.size w (((w.alloc (.cells #[.int .i64 da, .slice ad1 m1 cap1] 27)).alloc (.cells #[.int .i64 db, .slice ad2 m2 cap2] 27)).alloc (.cells #[.int .i64 0, .slice none 0 0] 27)) := (((Below.refl _ _).alloc (Nat.le_refl _) _).alloc (by simp) _).alloc (by simp; omega) _
  obtain ⟨⟨k0, k1⟩, ⟨k2, k3⟩, ⟨k4, k5⟩, k6, k7⟩ := three_cells w (.int .i64 da) (.slice ad1 m1 cap1) (.int .i64 db) (.slice ad2 m2 cap2) (.int .i64 0) (.slice none 0 0) 27
  have hz0 : w.heap.size + 1 + 1 + 1 = (((w.alloc (.cells #[.int .i64 da, .slice ad1 m1 cap1] 27)).alloc (.cells #[.int .i64 db, .slice ad2 m2 cap2] 27)).alloc (.cells #[.int .i64 0, .slice none 0 0] 27)).heap.size := by simp
  generalize hW0 : (((w.alloc (.cells #[.int .i64 da, .slice ad1 m1 cap1] 27)).alloc (.cells #[.int .i64 db, .slice ad2 m2 cap2] 27)).alloc (.cells #[.int .i64 0, .slice none 0 0] 27)) = W0 at hb0 k0 k1 k2 k3 k4 k5 k6 k7 hz0
  have HW0 := Hid.mk' hW0
  have HB0 := Hid.mk' hb0
  have HE := Hid.mk' (h.below hb0)
  have HL2 := Hid.mk' (hl2.later hb0)
  have HK := Hid.mk' (And.intro k2 (And.intro k3 (And.intro k4 (And.intro k5 (And.intro k6 k7)))))
  by_cases hok1 : OkLog da n1 p1 c1
  · have hok2 : ¬ OkLog db n2 p2 c2 := fun h2 => hbad ⟨hok1, h2⟩
    have hv1 := Valid_log da _ n1 p1 c1 a true ⟨fun _ => hok1, fun _ => rfl⟩ W0 HE.out (hl1.later hb0) hn1
    simp only [shapeErr] at hv1
    have HO2 := Hid.mk' hok2
    clear h hl1 hl2 hbad hb0 hW0 hok1 hok2 k2 k3 k4 k5 k6 k7
    go_enter Tryz.func40, Tryz.ntmps40
    go_wp2_with fail
    rw [HW0.out]
    refine hv1.mono ?_
    clear hv1 k0 k1
    rintro e w1 ⟨rfl, hb1⟩
    have x0 := (cell_past HK.out.1 hb1).2
    have x1 := (cell_past HK.out.2.1 hb1).2
    have hv2 := Valid_log db _ n2 p2 c2 a false ⟨(fun e => by cases e), (fun e => absurd e HO2.out)⟩ w1 (HE.out.below hb1) (HL2.out.later hb1) hn2
    simp only [shapeErr] at hv2
    have HB1 := Hid.mk' hb1
    clear hb1
    go_wp2_with fail
    refine hv2.mono ?_
    clear hv2 x0 x1
    rintro e w2 ⟨rfl, hb2⟩
    have hbw := below_chain HB1.out hb2
    have y0 := (cell_past HK.out.2.2.1 hbw).2
    have y1 := (cell_past HK.out.2.2.2.1 hbw).2
    have g0 := (frozen_past HK.out.2.2.1 HK.out.2.2.2.2.1 hbw).2
    have g1 := (frozen_past HK.out.2.2.2.1 HK.out.2.2.2.2.2 hbw).2
    have HBW := Hid.mk' hbw
    clear hb2 hbw
    go_wp2_with fail
    refine bodyPost_ret (v := .tuple #[.agg #[.int .i64 0, .slice none 0 0], .iface 183 (.pointer (some (a 2)))]) (by simp [results, Tryz.results40, go_sem, y0, y1]) rfl ⟨rfl, ((below_chain HB0.out HBW.out).setCell (by simp; omega) _).setCell (by simp; omega) _⟩
  · have hv1 := Valid_log da _ n1 p1 c1 a false ⟨(fun e => by cases e), (fun e => absurd e hok1)⟩ W0 HE.out (hl1.later hb0) hn1
    simp only [shapeErr] at hv1
    clear h hl1 hl2 hbad hb0 hW0 hok1 k2 k3 k4 k5 k6 k7
    go_enter Tryz.func40, Tryz.ntmps40
    go_wp2_with fail
    rw [HW0.out]
    refine hv1.mono ?_
    clear hv1 k0 k1
    rintro e w1 ⟨rfl, hb1⟩
    have y0 := (cell_past HK.out.2.2.1 hb1).2
    have y1 := (cell_past HK.out.2.2.2.1 hb1).2
    have g0 := (frozen_past HK.out.2.2.1 HK.out.2.2.2.2.1 hb1).2
    have g1 := (frozen_past HK.out.2.2.2.1 HK.out.2.2.2.2.2 hb1).2
    have HBW := Hid.mk' hb1
    clear hb1
    go_wp2_with fail
    refine bodyPost_ret (v := .tuple #[.agg #[.int .i64 0, .slice none 0 0], .iface 183 (.pointer (some (a 2)))]) (by simp [results, Tryz.results40, go_sem, y0, y1]) rfl ⟨rfl, ((below_chain HB0.out HBW.out).setCell (by simp; omega) _).setCell (by simp; omega) _⟩
end Go.Proofs.YtklhfagcembigaaGreatDoor

/- Two lists that tell the same; the document's sum of two in form. -/
namespace Go.Proofs.YtklhfagcembigaaGreatDoor
open Go.RowKit

def nzL (l : List (Int × Int)) : List (Int × Int) := l.filter fun e => !decide (e.2 = 0)
theorem nz_rise {l : List (Int × Int)} (h : Rising l) : Rising (nzL l) := List.Pairwise.filter _ h
theorem nz_nz {l : List (Int × Int)} : ∀ e ∈ nzL l, e.2 ≠ 0 := fun e he => by
  have := (List.mem_filter.1 he).2
  simpa using this
theorem nz_at {l : List (Int × Int)} (h : Rising l) (x : Int) : atL (nzL l) x = atL l x := by
  by_cases h0 : atL l x = 0
  · rw [h0]
    by_cases h1 : atL (nzL l) x = 0
    · exact h1
    · have h2 := (List.mem_filter.1 (atL_some h1)).1
      have h3 := atL_mem h h2
      simp only at h3
      exact h3.symm.trans h0
  · exact atL_mem (nz_rise h) (List.mem_filter.2 ⟨atL_some h0, by simpa using h0⟩)
theorem nz_same {l l' : List (Int × Int)} (h : Rising l) (h' : Rising l') (he : ∀ x, atL l x = atL l' x) : nzL l = nzL l' := rising_ext (nz_rise h) (nz_rise h') nz_nz nz_nz (fun x => by rw [nz_at h, nz_at h', he])
theorem nz_snd (l : List (Int × Int)) : (nzL l).map Prod.snd = (l.map Prod.snd).filter fun x => !decide (x = 0) := by
  unfold nzL
  rw [List.filter_map]
  rfl
theorem gList_same {l l' : List (Int × Int)} (h : Rising l) (h' : Rising l') (he : ∀ x, atL l x = atL l' x) (g : Nat) : gList g (l.map Prod.snd) = gList g (l'.map Prod.snd) := by
  rw [← gList_zeros, ← gList_zeros (l'.map Prod.snd), ← nz_snd, ← nz_snd, nz_same h h' he]
theorem over_same {l l' : List (Int × Int)} (h : Rising l) (h' : Rising l') (he : ∀ x, atL l x = atL l' x) (G : Nat) : overL G l = overL G l' := rising_ext (rising_over h G) (rising_over h' G) (fun e he => over_nz he) (fun e he => over_nz he) (fun x => by rw [atL_over h, atL_over h', he])
theorem fits_same {l l' : List (Int × Int)} (h' : Rising l') (he : ∀ x, atL l x = atL l' x) {M G : Nat} (hf : FitsL M G l) : FitsL M G l' := by
  refine ⟨hf.1, fun e hm => ?_⟩
  by_cases h0 : e.2 = 0
  · rw [h0]; simp
  · have h1 := atL_mem h' hm
    have h2 := he e.1
    rw [h1] at h2
    have h3 := hf.2 _ (atL_some (l := l) (x := e.1) (by rw [h2]; exact h0))
    simpa [h2] using h3
theorem gcdL_list {D : Nat} {l : List (Int × Int)} (hr : Rising l) : gcdL (D : Int) (atL l) (l.map Prod.fst) l.length = gList D (l.map Prod.snd) := by
  have h0 : gcdL (D : Int) (atL l) (l.map Prod.fst) l.length = gcdTo (D : Int) (cOf l) l.length := by
    have aux : ∀ k, k ≤ l.length → gcdTo (D : Int) (fun i => atL l ((l.map Prod.fst).getD i 0)) k = gcdTo (D : Int) (cOf l) k := by
      intro k
      induction k with
      | zero => intro _; rfl
      | succ k ih =>
        intro hk
        show Int.gcd (gcdTo (D : Int) (fun i => atL l ((l.map Prod.fst).getD i 0)) k : Int) (atL l ((l.map Prod.fst).getD k 0)) = Int.gcd (gcdTo (D : Int) (cOf l) k : Int) (cOf l k)
        rw [ih (by omega)]
        have : atL l ((l.map Prod.fst).getD k 0) = cOf l k := by rw [getD_fst (by omega)]; exact atL_mem hr (getD_mem (by omega))
        rw [this]
    exact aux _ (Nat.le_refl _)
  rw [h0, gcdTo_list _ _ _ (Nat.le_refl _), List.take_length, Int.natAbs_natCast]
theorem sumAt_list {t : List (Int × Int)} (hr : Rising t) (x : Int) : ∀ k, k ≤ t.length → sumAt (pOf t) (cOf t) x k = atL (t.take k) x
  | 0, _ => by simp [sumAt, atL]
  | k + 1, h => by
    rw [atL_take hr (by omega)]
    show sumAt _ _ _ k + _ = _
    rw [sumAt_list hr x k (by omega)]
    by_cases hx : x = pOf t k
    · rw [if_pos hx, if_pos hx.symm]
    · rw [if_neg hx, if_neg (Ne.symm hx)]
theorem sumAt_all {t : List (Int × Int)} (hr : Rising t) (x : Int) : sumAt (pOf t) (cOf t) x t.length = atL t x := by rw [sumAt_list hr x _ (Nat.le_refl _), List.take_length]
theorem sumAt_le {p c : Nat → Int} {n : Nat} (h : ∀ i, i < n → 0 ≤ p i ∧ -1099511627776 ≤ c i ∧ c i ≤ 1099511627776) (x : Int) : ∀ k, k ≤ n → (sumAt p c x k).natAbs ≤ k * 1099511627776
  | 0, _ => by simp [sumAt]
  | k + 1, hk => by
    have ih := sumAt_le h x k (by omega)
    have h1 := h k (by omega)
    show (sumAt p c x k + if x = p k then c k else 0).natAbs ≤ _
    by_cases hx : x = p k
    · rw [if_pos hx]; omega
    · rw [if_neg hx]; omega
theorem mul_bound {F s : Int} {a b : Nat} (hF : F.natAbs ≤ a) (hs : s.natAbs ≤ b) : (F * s).natAbs ≤ a * b := by rw [Int.natAbs_mul]; exact Nat.mul_le_mul hF hs
theorem okLog_pc {d : Int} {n : Nat} {p c : Nat → Int} (h : OkLog d n p c) : ∀ i, i < n → 0 ≤ p i ∧ -1099511627776 ≤ c i ∧ c i ≤ 1099511627776 := fun i hi => by
  have h1 := (h.2.2.1 i hi).2
  exact ⟨by have := h1.2.2.2.2.1; omega, h1.2.2.1, h1.2.2.2.1⟩
theorem LogAt.listed' {w : World} {sv : Value} {n : Nat} {p c : Nat → Int} (h : LogAt w sv n p c) : ∃ t : List (Int × Int), n = t.length ∧ LogAt w sv t.length (pOf t) (cOf t) := by
  refine ⟨(List.range n).map fun i => (p i, c i), by simp, ?_⟩
  rcases h with ⟨ad, cap, h1, h2⟩ | ⟨b, o, cap, h1, h2, h3⟩
  · exact Or.inl ⟨ad, cap, h1, by simp [h2]⟩
  · refine Or.inr ⟨b, o, cap, by simpa using h1, by simpa using h2, fun i hi => ?_⟩
    have hi' : i < n := by simpa using hi
    have e1 : pOf ((List.range n).map fun i => (p i, c i)) i = p i := by simp [pOf, List.getD, hi']
    have e2 : cOf ((List.range n).map fun i => (p i, c i)) i = c i := by simp [cOf, List.getD, hi']
    rw [e1, e2]
    exact h3 i hi'

/-- The answer of a sum: in form and nil, or nothing and ErrBound. -/
def SaidOf (M : Nat) (l : List (Int × Int)) (a : Nat → Addr) (w : World) (dn : Int) (v er : Value) : Prop := (FitsL M (gList M (l.map Prod.snd)) l ∧ dn = ((M / gList M (l.map Prod.snd) : Nat) : Int) ∧ er = .nilIface ∧ ListAt w v (overL (gList M (l.map Prod.snd)) l)) ∨ (¬ FitsL M (gList M (l.map Prod.snd)) l ∧ dn = 0 ∧ v = .slice none 0 0 ∧ er = .iface 183 (.pointer (some (a 1))))
theorem ToldOf.same {M : Nat} {l l' : List (Int × Int)} (h : Rising l) (h' : Rising l') (he : ∀ x, atL l x = atL l' x) {w : World} {dn : Int} {v : Value} {code : Int} (ht : ToldOf M l w dn v code) : ToldOf M l' w dn v code := by
  have hg := gList_same h h' he M
  have ho := over_same h h' he (gList M (l'.map Prod.snd))
  rcases ht with ⟨h1, h2, h3, h4⟩ | ⟨h1, h2, h3, h4⟩
  · rw [hg] at h1 h2 h4
    rw [ho] at h4
    exact Or.inl ⟨fits_same h' he h1, h2, h3, h4⟩
  · rw [hg] at h1
    exact Or.inr ⟨fun hf => h1 (fits_same h (fun x => (he x).symm) hf), h2, h3, h4⟩
theorem ToldOf.later {M : Nat} {l : List (Int × Int)} {w w' : World} {dn : Int} {v : Value} {code : Int} (ht : ToldOf M l w dn v code) (hb : Below w.heap.size w w') : ToldOf M l w' dn v code := by
  rcases ht with ⟨h1, h2, h3, h4⟩ | h
  · exact Or.inl ⟨h1, h2, h3, OwnAt.later h4 hb⟩
  · exact Or.inr h
theorem SaidOf.later {M : Nat} {l : List (Int × Int)} {a : Nat → Addr} {w w' : World} {dn : Int} {v er : Value} (ht : SaidOf M l a w dn v er) (hb : Below w.heap.size w w') : SaidOf M l a w' dn v er := by
  rcases ht with ⟨h1, h2, h3, h4⟩ | h
  · exact Or.inl ⟨h1, h2, h3, OwnAt.later h4 hb⟩
  · exact Or.inr h

/-- isLog of what both say of one sum. -/
theorem isLog_said (M : Nat) (l : List (Int × Int)) (a : Nat → Addr) (w : World) (h : Errs w a) (hl : l.length ≤ 1000000) (dn1 dn2 code : Int) (ad1 ad2 : Option Addr) (m1 m2 cap1 cap2 : Nat) (er : Value) (h1 : SaidOf M l a w dn1 (.slice ad1 m1 cap1) er) (h2 : ToldOf M l w dn2 (.slice ad2 m2 cap2) code) :
    Calls Tryz.prog 12 #[.agg #[.int .i64 dn1, .slice ad1 m1 cap1], er, .agg #[.int .i64 dn2, .slice ad2 m2 cap2], .int .i64 code] w fun e w' => e = .returned (.bool true) ∧ Below w.heap.size w w' := by
  rcases h1 with ⟨f1, rfl, rfl, l1⟩ | ⟨f1, rfl, v1, rfl⟩
  · rcases h2 with ⟨_, rfl, rfl, l2⟩ | ⟨f2, _⟩
    · exact isLog_ok _ _ _ _ _ _ w l1 l2 (by have := length_over l (gList M (l.map Prod.snd)); omega)
    · exact absurd f1 f2
  · rcases h2 with ⟨f2, _⟩ | ⟨_, rfl, v2, rfl⟩
    · exact absurd f2 f1
    · rw [v1]
      exact isLog_err a 1 (by decide) 0 ad2 m2 cap2 w h
end Go.Proofs.YtklhfagcembigaaGreatDoor

/- dist.sumOver: a sum of all that a function puts. -/
namespace Go.Proofs.YtklhfagcembigaaGreatDoor
open Go.RowKit Go.Maps

/-- What is told of a sum that has a form: f over M. -/
def LogBy (base M : Nat) (f : Int → Int) (w : World) (dn : Int) (v : Value) : Prop := ∃ l : List (Int × Int), Rising l ∧ (∀ x, atL l x = f x) ∧ l.length ≤ 90000 ∧ dn = ((M / gList M (l.map Prod.snd) : Nat) : Int) ∧ w.ownsRow base 90 2 v (overL (gList M (l.map Prod.snd)) l).length (termCells (pOf (overL (gList M (l.map Prod.snd)) l)) (cOf (overL (gList M (l.map Prod.snd)) l)) (overL (gList M (l.map Prod.snd)) l).length)
theorem LogBy.form {base M : Nat} {f : Int → Int} {w : World} {dn : Int} {v : Value} (h : LogBy base M f w dn v) : ∃ ad n c, v = .slice ad n c := by
  obtain ⟨l, _, _, _, _, hr⟩ := h
  rcases hr.2 with ⟨rfl, _⟩ | ⟨gg, cap', cur', rfl, _⟩
  · exact ⟨_, _, _, rfl⟩
  · exact ⟨_, _, _, rfl⟩
theorem LogBy.later {base M : Nat} {f : Int → Int} {w w' : World} {dn : Int} {v : Value} (h : LogBy base M f w dn v) (hb : Below w.heap.size w w') : LogBy base M f w' dn v := by
  obtain ⟨l, h1, h2, h3, h5, hr⟩ := h
  exact ⟨l, h1, h2, h3, h5, ownsRow_past hr hb⟩
theorem LogBy.lower {base base' M : Nat} {f : Int → Int} {w : World} {dn : Int} {v : Value} (h : LogBy base M f w dn v) (hb : base' ≤ base) : LogBy base' M f w dn v := by
  obtain ⟨l, h1, h2, h3, h5, hr⟩ := h
  exact ⟨l, h1, h2, h3, h5, row_base hr hb⟩
theorem LogBy.set {base M : Nat} {f : Int → Int} {w : World} {dn : Int} {v : Value} (h : LogBy base M f w dn v) {B : Nat} (hB : B < base) (x y : Value) : LogBy base M f ((w.setCell ⟨B, 0, none⟩ x).setCell ⟨B, 1, none⟩ y) dn v := by
  obtain ⟨l, h1, h2, h3, h5, hr⟩ := h
  exact ⟨l, h1, h2, h3, h5, ownsRow_setCell_below (ownsRow_setCell_below hr (a := ⟨B, 0, none⟩) hB x) (a := ⟨B, 1, none⟩) hB y⟩
theorem LogBy.list {base M : Nat} {f : Int → Int} {w : World} {dn : Int} {v : Value} (h : LogBy base M f w dn v) : ∃ l : List (Int × Int), Rising l ∧ (∀ x, atL l x = f x) ∧ l.length ≤ 90000 ∧ dn = ((M / gList M (l.map Prod.snd) : Nat) : Int) ∧ ListAt w v (overL (gList M (l.map Prod.snd)) l) := by
  obtain ⟨l, h1, h2, h3, h5, hr⟩ := h
  exact ⟨l, h1, h2, h3, h5, ownAt_of_row hr⟩

set_option maxRecDepth 100000 in
set_option maxHeartbeats 2000000 in
theorem sumOver_any (K : Nat) (cap : Array Value) (M c : Nat) (f : Int → Int) (w : World) (hent : ∀ (args : Array Value) (w : World), (callFunc K args).run Tryz.prog w = .ok (.enter K args) w) (hM : 1 ≤ M) (hM6 : M ≤ 4096) (hc : c ≤ 4000) (hf : ∀ x, -1000000000 ≤ f x ∧ f x ≤ 1000000000)
    (hp : ∀ (W : World) (mb : Nat), Below w.heap.size w W → W.ownsMap Tryz.prog 3 (plainElem (H := Unit) Tryz.prog 3) mb 0 (mapOf []) → Calls Tryz.prog K (#[putV M mb] ++ cap) W fun e w' => e = .returned (.tuple #[]) ∧ ∃ l nn, Puts W w' mb f c [] 0 l nn) :
    Calls Tryz.prog 36 #[.int .i64 M, .func (.func K) #[] cap] w fun e w' => ∃ dn v, e = .returned (.tuple #[.agg #[.int .i64 dn, v], .nilIface]) ∧ LogBy w.heap.size M f w' dn v ∧ Below w.heap.size w w' := by
  obtain ⟨W0, hW0⟩ : ∃ W0, W0 = w.alloc (.cells #[.int .i64 0, .slice none 0 0] 27) := ⟨_, rfl⟩
  have hb0 : Below w.heap.size w W0 := by rw [hW0]; exact new_below _ _
  have hres : ∀ W, Below W0.heap.size W0 W → W.cell? ⟨w.heap.size, 0, none⟩ = some (.int .i64 0) ∧ W.cell? ⟨w.heap.size, 1, none⟩ = some (.slice none 0 0) ∧ W.frozen? ⟨w.heap.size, 0, none⟩ = false ∧ W.frozen? ⟨w.heap.size, 1, none⟩ = false := fun W hb => by
    rw [hW0] at hb
    obtain ⟨q0, q1, q2, q3⟩ := res_past hb
    exact ⟨q0, q1, q2, q3⟩
  have hsz : W0.heap.size = w.heap.size + 1 := by rw [hW0]; simp
  have hov := newSum_any (M : Int) W0
  have HP := Hid.mk' hp
  have HF := Hid.mk' hf
  have HB0 := Hid.mk' hb0
  have HRES := Hid.mk' hres
  have HW0 := Hid.mk' hW0
  have HSZ := Hid.mk' hsz
  clear hp hf hb0 hres hW0 hsz
  go_enter Tryz.func36, Tryz.ntmps36
  go_wp2_with fail
  rw [← HW0.out]
  refine hov.mono ?_
  clear hov
  rintro e w1 ⟨rfl, hown1, hb1⟩
  have HB1 := Hid.mk' hb1
  have ho1 : (w1.alloc (.cells #[.int .i64 M, .map (some (W0.heap.size + 1))] 86)).ownsMap Tryz.prog 3 (plainElem (H := Unit) Tryz.prog 3) (W0.heap.size + 1) 0 (mapOf []) := ownsMap_later hown1 (Below.heap_alloc _ _ _ hown1.lt)
  have HX1 : Hid (w1.cell? ⟨W0.heap.size + 1, 0, none⟩ = none) := map_no_cell hown1
  have hlt1 := hown1.lt
  obtain ⟨W1, hW1⟩ : ∃ W1, W1 = w1.alloc (.cells #[.int .i64 M, .map (some (W0.heap.size + 1))] 86) := ⟨_, rfl⟩
  have hs0 : W1.cell? ⟨w1.heap.size, 0, none⟩ = some (.int .i64 M) := by rw [hW1]; simp
  have hs1 : W1.cell? ⟨w1.heap.size, 1, none⟩ = some (.map (some (W0.heap.size + 1))) := by rw [hW1]; simp
  have HB2 : Hid (Below W0.heap.size W0 W1) := by rw [hW1]; exact below_chain hb1 (new_below _ _)
  rw [← hW1] at ho1
  have HO1 := Hid.mk' ho1
  have HS := Hid.mk' (And.intro hs0 hs1)
  have HW1 := Hid.mk' hW1
  have HLT := Hid.mk' hlt1
  clear hown1 hb1 ho1 hs0 hs1 hW1 hlt1
  go_upto_region 2 with fail
  rw [← HW1.out]
  obtain ⟨hs0, hs1⟩ := HS.out
  have hcall := HP.out W1 (W0.heap.size + 1) (below_chain HB0.out HB2.out) HO1.out
  unfold putV at hcall
  clear HP
  go_wp2_with fail
  refine hcall.mono ?_
  clear hcall hs0 hs1
  rintro e w2 ⟨rfl, l, nn, hpt⟩
  have hne : w1.heap.size ≠ W0.heap.size + 1 := by have := HLT.out; omega
  have hs0 := cell_beside hpt.grow HS.out.1 hne
  have hs1 := cell_beside hpt.grow HS.out.2 hne
  have hz1 := HB2.out.size
  have hlw : w.heap.size < W0.heap.size := by have := HSZ.out; omega
  have HB3 : Hid (Below W0.heap.size W0 w2) := HB2.out.grown hpt.grow HB2.out.size (fun k e => by cases e; omega)
  have hval : ∀ x, atL l x = f x := fun x => by have := hpt.val x; simpa [atL] using this
  have hlen : l.length ≤ 90000 := by have := hpt.len; simp at this; omega
  have hG := gcdL_list (D := M) hpt.rise
  have hfit : ∀ e ∈ l, (e.2.tdiv (gList M (l.map Prod.snd) : Int)).natAbs ≤ 1099511627776 := fun e he => by
    have h1 := HF.out e.1
    rw [← hval, atL_mem hpt.rise he] at h1
    rw [Int.natAbs_tdiv]
    exact Nat.le_trans (Nat.div_le_self _ _) (by omega)
  have ht := told_list (M : Int) (W0.heap.size + 1) nn l w2 hpt.own hpt.rise hpt.keys (by omega) (fun x => by rw [hval]; have := HF.out x; omega) (by omega) (by omega) _ hG (by rw [← Int.natCast_ediv]; exact Int.le_trans (Int.ofNat_le.2 (Nat.div_le_self _ _)) (by omega)) hfit
  have HLB : Hid (Rising l ∧ (∀ x, atL l x = f x) ∧ l.length ≤ 90000) := ⟨hpt.rise, hval, hlen⟩
  have HLW := Hid.mk' hlw
  clear hpt hval hlen hG hfit HF hz1 hlw HS HO1 HW1
  go_wp2_with fail
  refine ht.mono ?_
  clear ht hs0 hs1
  rintro e w3 ⟨v, rfl, hrow, hb3⟩
  obtain ⟨c0, c1, q0, q1⟩ := HRES.out w3 (below_chain HB3.out hb3)
  have HBW := Hid.mk' (below_chain HB0.out (below_chain HB3.out hb3))
  have HZ : Hid (w.heap.size < w2.heap.size) := by have h1 := HLW.out; have h2 := HB3.out.size; show _ < _; omega
  have HROW := Hid.mk' hrow
  obtain ⟨ad, n', c', rfl⟩ : ∃ ad n' c', v = .slice ad n' c' := by
    rcases hrow.2 with ⟨rfl, _⟩ | ⟨gg, cap', cur', rfl, _⟩
    · exact ⟨_, _, _, rfl⟩
    · exact ⟨_, _, _, rfl⟩
  clear hrow hb3 HRES
  go_wp2_with fail
  refine bodyPost_ret (v := .tuple #[.agg #[.int .i64 ((M : Int) / (gList M (l.map Prod.snd) : Int)), .slice ad n' c'], .nilIface]) (by simp [results, Tryz.results36, go_sem, c0, c1]) rfl ⟨_, .slice ad n' c', rfl, ⟨l, HLB.out.1, HLB.out.2.1, HLB.out.2.2, by simp, ?_⟩, ?_⟩
  · have h1 := ownsRow_setCell_below HROW.out (a := ⟨w.heap.size, 0, none⟩) HZ.out (.int .i64 ((M : Int) / (gList M (l.map Prod.snd) : Int)))
    have h2 := ownsRow_setCell_below h1 (a := ⟨w.heap.size, 1, none⟩) HZ.out (.slice ad n' c')
    exact row_base h2 (Nat.le_of_lt HZ.out)
  · exact (HBW.out.setCell (by simp) _).setCell (by simp) _

/-- Two that are told of one sum are the same. -/
theorem isLog_by {M b1 b2 : Nat} {f g : Int → Int} {w : World} {d1 d2 : Int} {v1 v2 : Value} (h1 : LogBy b1 M f w d1 v1) (h2 : LogBy b2 M g w d2 v2) (he : ∀ x, f x = g x) :
    Calls Tryz.prog 12 #[.agg #[.int .i64 d1, v1], .nilIface, .agg #[.int .i64 d2, v2], .int .i64 0] w fun e w' => e = .returned (.bool true) ∧ Below w.heap.size w w' := by
  obtain ⟨l1, r1, a1, n1, rfl, o1⟩ := h1.list
  obtain ⟨l2, r2, a2, n2, rfl, o2⟩ := h2.list
  have hx : ∀ x, atL l1 x = atL l2 x := fun x => by rw [a1, a2, he]
  rw [gList_same r1 r2 hx] at o1 ⊢
  rw [over_same r1 r2 hx] at o1
  exact isLog_ok _ _ _ _ _ _ w o1 o2 (by have := length_over l2 (gList M (l2.map Prod.snd)); omega)
end Go.Proofs.YtklhfagcembigaaGreatDoor

/- The sum of two in its canonical form. -/
namespace Go.Proofs.YtklhfagcembigaaGreatDoor

/-- The value of a sum: over the product of the denominators. -/
theorem sum_value {da db g G : Nat} {l t1 t2 : List (Int × Int)} (hg : g = Int.gcd (da : Int) (db : Int)) (hda : 0 < da) (hdb : 0 < db) (hr : Rising l) (hv : ∀ x, atL l x = atL t1 x * ((db / g : Nat) : Int) + atL t2 x * ((da / g : Nat) : Int)) (hG : gcdL ((da / g * db : Nat) : Int) (atL l) (l.map Prod.fst) l.length = G) :
    Canon (da / g * db / G) (overL G l) ∧ (((da / g * db : Nat) : Int) / (G : Int) = ((da / g * db / G : Nat) : Int)) ∧ (∀ x, atL (overL G l) x * ((da : Int) * (db : Int)) = (atL t1 x * (db : Int) + atL t2 x * (da : Int)) * ((da / g * db / G : Nat) : Int)) ∧ (Fits ((da / g * db : Nat) : Int) G l ↔ (da / g * db / G ≤ 1000000 ∧ ∀ e ∈ overL G l, e.2.natAbs ≤ 1099511627776)) := by
  have hgn : g = Nat.gcd da db := by rw [hg]; simp [Int.gcd]
  have hgp : 0 < g := by rw [hgn]; exact Nat.gcd_pos_of_pos_left _ hda
  obtain ⟨a', ha'⟩ : g ∣ da := by rw [hgn]; exact Nat.gcd_dvd_left _ _
  obtain ⟨b', hb'⟩ : g ∣ db := by rw [hgn]; exact Nat.gcd_dvd_right _ _
  have e1 : da / g = a' := by rw [ha', Nat.mul_div_cancel_left _ hgp]
  have e2 : db / g = b' := by rw [hb', Nat.mul_div_cancel_left _ hgp]
  have hD : 0 < da / g * db := Nat.mul_pos (Nat.div_pos (Nat.le_of_dvd hda ⟨a', ha'⟩) hgp) hdb
  obtain ⟨⟨d, hd⟩, hGp, hval, hcan⟩ := over_canon hD hr hG
  have e3 : da / g * db / G = d := by rw [hd, Nat.mul_div_cancel_left _ hGp]
  refine ⟨hcan, by simp, fun x => ?_, ?_⟩
  · have h1 := hv x
    rw [hval x, e1, e2] at h1
    rw [e3]
    rw [e1] at hd
    have h2 : (a' : Int) * (db : Int) = (G : Int) * (d : Int) := by rw [← Int.natCast_mul, hd, Int.natCast_mul]
    have h3 : (da : Int) = (g : Int) * (a' : Int) := by rw [ha', Int.natCast_mul]
    have h4 : (db : Int) = (g : Int) * (b' : Int) := by rw [hb', Int.natCast_mul]
    generalize atL (overL G l) x = T at *
    generalize atL t1 x = A at *
    generalize atL t2 x = B at *
    have h5 : T * ((da : Int) * (db : Int)) = T * ((g : Int) * ((a' : Int) * (db : Int))) := by rw [h3]; grind
    rw [h5, h2]
    have h6 : A * (db : Int) + B * (da : Int) = (g : Int) * ((G : Int) * T) := by rw [h1, h3, h4]; grind
    rw [h6]
    grind
  · unfold Fits
    constructor
    · rintro ⟨h1, h2⟩
      refine ⟨?_, fun e he => ?_⟩
      · have : ((da / g * db : Nat) : Int) / (G : Int) = ((da / g * db / G : Nat) : Int) := by simp
        rw [this] at h1
        omega
      · obtain ⟨f, hf, rfl⟩ := mem_over he
        exact h2 f hf
    · rintro ⟨h1, h2⟩
      refine ⟨?_, fun e he => ?_⟩
      · have : ((da / g * db : Nat) : Int) / (G : Int) = ((da / g * db / G : Nat) : Int) := by simp
        rw [this]
        omega
      · by_cases h0 : e.2.tdiv (G : Int) = 0
        · rw [h0]; decide
        · exact h2 (e.1, e.2.tdiv (G : Int)) (List.mem_filter.2 ⟨List.mem_map.2 ⟨e, he, rfl⟩, by simpa using h0⟩)
end Go.Proofs.YtklhfagcembigaaGreatDoor

/- Words of 64 bits: plain lists and numbers. -/
namespace Go.Proofs.YtklhfagcembigaaGreatDoor

def wv : List Nat → Nat
  | [] => 0
  | d :: r => d + 18446744073709551616 * wv r
def Wrd (l : List Nat) : Prop := ∀ i, i < l.length → l.getD i 0 < 18446744073709551616
def NoEnd (l : List Nat) : Prop := ∀ i, i + 1 = l.length → l.getD i 0 ≠ 0

theorem wv_append (l r : List Nat) : wv (l ++ r) = wv l + 18446744073709551616 ^ l.length * wv r := by
  induction l with
  | nil => simp [wv]
  | cons d l ih =>
    simp only [List.cons_append, wv, ih, List.length_cons, Nat.pow_succ]
    rw [Nat.mul_add, Nat.mul_comm (18446744073709551616 ^ l.length) 18446744073709551616, Nat.mul_assoc]
    omega
theorem wv_single (d : Nat) : wv [d] = d := by simp [wv]
theorem wtake_succ_getD (l : List Nat) (k : Nat) (h : k < l.length) : l.take (k + 1) = l.take k ++ [l.getD k 0] := by
  rw [List.take_succ_eq_append_getElem h, List.getD_eq_getElem?_getD, List.getElem?_eq_getElem h]
  rfl
theorem wv_take_succ (l : List Nat) (k : Nat) (h : k < l.length) : wv (l.take (k + 1)) = wv (l.take k) + 18446744073709551616 ^ k * l.getD k 0 := by
  rw [wtake_succ_getD l k h, wv_append, wv_single, List.length_take, Nat.min_eq_left (by omega)]
theorem wv_take_ge (l : List Nat) (k : Nat) (h : l.length ≤ k) : wv (l.take k) = wv l := by rw [List.take_of_length_le h]
theorem wv_zeros (l : List Nat) (k : Nat) (hk : k ≤ l.length) (h : ∀ i, k ≤ i → i < l.length → l.getD i 0 = 0) : wv (l.take k) = wv l := by
  obtain ⟨m, hm⟩ : ∃ m, l.length = k + m := ⟨l.length - k, by omega⟩
  have aux : ∀ j, j ≤ m → wv (l.take (k + j)) = wv (l.take k) := by
    intro j
    induction j with
    | zero => intro _; rfl
    | succ j ih =>
      intro hj
      rw [← Nat.add_assoc, wv_take_succ l (k + j) (by omega), h (k + j) (by omega) (by omega), Nat.mul_zero, Nat.add_zero, ih (by omega)]
  rw [← aux m (Nat.le_refl _), ← hm, List.take_length]
theorem wv_lt : ∀ l : List Nat, Wrd l → wv l < 18446744073709551616 ^ l.length
  | [], _ => by simp [wv]
  | d :: r, h => by
    have h0 : d < 18446744073709551616 := by simpa using h 0 (by simp)
    have hr : Wrd r := fun i hi => by simpa using h (i + 1) (by simpa using hi)
    have := wv_lt r hr
    simp only [wv, List.length_cons, Nat.pow_succ]
    omega
theorem NoEnd.take_le {l : List Nat} (h : NoEnd l) (hp : 0 < l.length) : 18446744073709551616 ^ (l.length - 1) ≤ wv l := by
  have h1 := wv_take_succ l (l.length - 1) (by omega)
  have h2 : l.getD (l.length - 1) 0 ≠ 0 := h (l.length - 1) (by omega)
  rw [show l.length - 1 + 1 = l.length by omega, List.take_length] at h1
  rw [h1]
  have h3 : 18446744073709551616 ^ (l.length - 1) * 1 ≤ 18446744073709551616 ^ (l.length - 1) * l.getD (l.length - 1) 0 := Nat.mul_le_mul_left _ (by omega)
  omega
theorem wlen_le_of_lt {l : List Nat} {k : Nat} (h : NoEnd l) (hb : wv l < 18446744073709551616 ^ k) : l.length ≤ k := by
  rcases Nat.lt_or_ge k l.length with h' | h'
  · have h1 := h.take_le (by omega)
    have h2 : 18446744073709551616 ^ k ≤ 18446744073709551616 ^ (l.length - 1) := Nat.pow_le_pow_right (by decide) (by omega)
    omega
  · exact h'
theorem wv_lt_of_len {a b : List Nat} (ha : Wrd a) (hb : NoEnd b) (h : a.length < b.length) : wv a < wv b := by
  have h1 := wv_lt a ha
  have h2 := hb.take_le (by omega)
  have h3 : 18446744073709551616 ^ a.length ≤ 18446744073709551616 ^ (b.length - 1) := Nat.pow_le_pow_right (by decide) (by omega)
  omega
/-- Of two of one length, the highest place at which they differ decides. -/
theorem wv_lt_of_place {a b : List Nat} (ha : Wrd a) (k : Nat) (hk : k < a.length) (hl : a.length = b.length) (hs : ∀ i, k < i → i < a.length → a.getD i 0 = b.getD i 0) (hd : a.getD k 0 < b.getD k 0) : wv a < wv b := by
  obtain ⟨m, hm⟩ : ∃ m, a.length = k + 1 + m := ⟨a.length - (k + 1), by omega⟩
  have ht : wv (a.take k) < 18446744073709551616 ^ k := by
    have : Wrd (a.take k) := fun i hi => by
      have hi' : i < k := by simp at hi; omega
      rw [List.getD_eq_getElem?_getD, List.getElem?_take_of_lt hi', ← List.getD_eq_getElem?_getD]
      exact ha i (by omega)
    have h := wv_lt _ this
    rwa [List.length_take, Nat.min_eq_left (by omega)] at h
  have base : wv (a.take (k + 1)) < wv (b.take (k + 1)) := by
    rw [wv_take_succ a k hk, wv_take_succ b k (by omega)]
    have : 18446744073709551616 ^ k * (a.getD k 0 + 1) ≤ 18446744073709551616 ^ k * b.getD k 0 := Nat.mul_le_mul_left _ hd
    rw [Nat.mul_add, Nat.mul_one] at this
    omega
  have aux : ∀ j, j ≤ m → wv (a.take (k + 1 + j)) < wv (b.take (k + 1 + j)) := by
    intro j
    induction j with
    | zero => intro _; exact base
    | succ j ih =>
      intro hj
      rw [← Nat.add_assoc, wv_take_succ a _ (by omega), wv_take_succ b _ (by omega), hs (k + 1 + j) (by omega) (by omega)]
      have := ih (by omega)
      omega
  have := aux m (Nat.le_refl _)
  rwa [← hm, List.take_length, hl, List.take_length] at this
theorem wlist_ext_getD {a b : List Nat} (hl : a.length = b.length) (h : ∀ i, i < a.length → a.getD i 0 = b.getD i 0) : a = b := by
  refine List.ext_getElem hl fun i h1 h2 => ?_
  have := h i h1
  rw [List.getD_eq_getElem?_getD, List.getD_eq_getElem?_getD, List.getElem?_eq_getElem h1, List.getElem?_eq_getElem h2] at this
  simpa using this
theorem wgetD_append_left {l r : List Nat} {i : Nat} (h : i < l.length) : (l ++ r).getD i 0 = l.getD i 0 := by
  rw [List.getD_eq_getElem?_getD, List.getElem?_append_left h, ← List.getD_eq_getElem?_getD]
theorem wgetD_append_last {l : List Nat} {d : Nat} : (l ++ [d]).getD l.length 0 = d := by
  rw [List.getD_eq_getElem?_getD, List.getElem?_append_right (Nat.le_refl _)]
  simp
theorem Wrd.push {l : List Nat} {d : Nat} (h : Wrd l) (hd : d < 18446744073709551616) : Wrd (l ++ [d]) := fun i hi => by
  rcases Nat.lt_or_ge i l.length with h' | h'
  · rw [wgetD_append_left h']; exact h i h'
  · have : i = l.length := by simp at hi; omega
    subst this
    rw [wgetD_append_last]; exact hd
theorem Wrd.take {l : List Nat} (h : Wrd l) (k : Nat) : Wrd (l.take k) := fun i hi => by
  have hi' : i < k ∧ i < l.length := by simp at hi; omega
  rw [List.getD_eq_getElem?_getD, List.getElem?_take_of_lt hi'.1, ← List.getD_eq_getElem?_getD]
  exact h i hi'.2
theorem wgetD_take {l : List Nat} {k i : Nat} (h : i < k) : (l.take k).getD i 0 = l.getD i 0 := by
  rw [List.getD_eq_getElem?_getD, List.getElem?_take_of_lt h, ← List.getD_eq_getElem?_getD]
end Go.Proofs.YtklhfagcembigaaGreatDoor

/- The library contracts of math/bits.Len and Len64 laid at the numbers of this translation. -/
namespace Go.Proofs
open Go.Shelf
def Tryz.lenA_ren : Go.Shelf.Ren := ⟨fun | 125 => 76 | 128 => 108 | 129 => 109 | n => n, fun | 46 => 115 | 3 => 3 | 51 => 153 | 53 => 118 | 4 => 4 | 5 => 5 | 9 => 9 | n => n, fun | n => n⟩
theorem Tryz.lenA : Go.Proofs.Lays.n125 Tryz.prog Tryz.lenA_ren := {
  mixed := by kernel_rfl
  f125 := Tryz.func76.trans (congrArg some (by kernel_rfl))
  f128 := Tryz.func108.trans (congrArg some (by kernel_rfl))
  f129 := Tryz.func109.trans (congrArg some (by kernel_rfl))
  t3 := Tryz.underlying3
  a3 := Tryz.isAgg3
  z3 := Tryz.sizeOf3
  v3 := Tryz.zeroValue3
  t4 := Tryz.underlying4
  a4 := Tryz.isAgg4
  z4 := Tryz.sizeOf4
  v4 := Tryz.zeroValue4
  t5 := Tryz.underlying5
  a5 := Tryz.isAgg5
  z5 := Tryz.sizeOf5
  v5 := Tryz.zeroValue5
  t9 := Tryz.underlying9
  a9 := Tryz.isAgg9
  z9 := Tryz.sizeOf9
  v9 := Tryz.zeroValue9
  t46 := Tryz.underlying115
  a46 := Tryz.isAgg115
  z46 := Tryz.sizeOf115
  v46 := Tryz.zeroValue115
  t51 := Tryz.underlying153
  a51 := Tryz.isAgg153
  z51 := Tryz.sizeOf153
  v51 := Tryz.zeroValue153
  t53 := Tryz.underlying118
  a53 := Tryz.isAgg118
  z53 := Tryz.sizeOf118
  v53 := Tryz.zeroValue118 }
def Tryz.len64A_ren : Go.Shelf.Ren := ⟨fun | 129 => 109 | n => n, fun | 53 => 118 | 3 => 3 | 4 => 4 | 46 => 115 | 5 => 5 | 9 => 9 | n => n, fun | n => n⟩
theorem Tryz.len64A : Go.Proofs.Lays.n129 Tryz.prog Tryz.len64A_ren := {
  mixed := by kernel_rfl
  f129 := Tryz.func109.trans (congrArg some (by kernel_rfl))
  t3 := Tryz.underlying3
  a3 := Tryz.isAgg3
  z3 := Tryz.sizeOf3
  v3 := Tryz.zeroValue3
  t4 := Tryz.underlying4
  a4 := Tryz.isAgg4
  z4 := Tryz.sizeOf4
  v4 := Tryz.zeroValue4
  t5 := Tryz.underlying5
  a5 := Tryz.isAgg5
  z5 := Tryz.sizeOf5
  v5 := Tryz.zeroValue5
  t9 := Tryz.underlying9
  a9 := Tryz.isAgg9
  z9 := Tryz.sizeOf9
  v9 := Tryz.zeroValue9
  t46 := Tryz.underlying115
  a46 := Tryz.isAgg115
  z46 := Tryz.sizeOf115
  v46 := Tryz.zeroValue115
  t53 := Tryz.underlying118
  a53 := Tryz.isAgg118
  z53 := Tryz.sizeOf118
  v53 := Tryz.zeroValue118 }
end Go.Proofs
