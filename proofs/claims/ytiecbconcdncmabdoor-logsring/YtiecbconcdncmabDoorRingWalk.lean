/- demonlaw1.LogsRing: what its walk takes. -/
import Derived.Test.YtiecbconcdncmabDoorRingAdd
import Derived.Test.YtiecbconcdncmabDoorProductsLaw
namespace Go.Proofs.YtiecbconcdncmabDoor
open Go.RowKit Go.Maps

theorem ListAt.log {W : World} {v : Value} {t : List (Int × Int)} (h : ListAt W v t) : LogAt W v t.length (pOf t) (cOf t) := by
  obtain ⟨ad, cap, rfl, hl⟩ := log_of_own h
  exact hl
/-- A variable that holds a logarithm. -/
structure LX (W : World) (B : Nat) (d : Int) (v : Value) (t : List (Int × Int)) : Prop where
  c0 : W.cell? ⟨B, 0, none⟩ = some (.int .i64 d)
  c1 : W.cell? ⟨B, 1, none⟩ = some v
  log : LogAt W v t.length (pOf t) (cOf t)
theorem LX.later {W W' : World} {B : Nat} {d : Int} {v : Value} {t : List (Int × Int)} (h : LX W B d v t) (hb : Below W.heap.size W W') : LX W' B d v t :=
  ⟨(cell_past h.c0 hb).2, (cell_past h.c1 hb).2, h.log.later hb⟩
theorem LX.more {w : World} {B : Nat} {d : Int} {v : Value} {t : List (Int × Int)} (h : LX w B d v t) (X : Obj) : LX (w.alloc X) B d v t := h.later (alloc_below _ _)
/-- One whose terms are its own. -/
structure LO (W : World) (B : Nat) (d : Int) (v : Value) (t : List (Int × Int)) : Prop where
  c0 : W.cell? ⟨B, 0, none⟩ = some (.int .i64 d)
  c1 : W.cell? ⟨B, 1, none⟩ = some v
  list : ListAt W v t
theorem LO.later {W W' : World} {B : Nat} {d : Int} {v : Value} {t : List (Int × Int)} (h : LO W B d v t) (hb : Below W.heap.size W W') : LO W' B d v t :=
  ⟨(cell_past h.c0 hb).2, (cell_past h.c1 hb).2, h.list.later hb⟩
theorem LO.more {w : World} {B : Nat} {d : Int} {v : Value} {t : List (Int × Int)} (h : LO w B d v t) (X : Obj) : LO (w.alloc X) B d v t := h.later (alloc_below _ _)
theorem LO.new {w : World} {d : Int} {v : Value} {t : List (Int × Int)} (h : ListAt w v t) : LO (w.alloc (.cells #[.int .i64 d, v] 25)) w.heap.size d v t :=
  ⟨by rw [World.cell?_alloc_at _ _ _ _ rfl]; rfl, by rw [World.cell?_alloc_at _ _ _ _ rfl]; rfl, h.later (alloc_below _ _)⟩

/-- One whose terms are its own, by its numbers. -/
structure ON (W : World) (B : Nat) (d : Int) (v : Value) (n : Nat) (p c : Nat → Int) : Prop where
  c0 : W.cell? ⟨B, 0, none⟩ = some (.int .i64 d)
  c1 : W.cell? ⟨B, 1, none⟩ = some v
  own : OwnAt W v n p c
theorem ON.later {W W' : World} {B : Nat} {d : Int} {v : Value} {n : Nat} {p c : Nat → Int} (h : ON W B d v n p c) (hb : Below W.heap.size W W') : ON W' B d v n p c :=
  ⟨(cell_past h.c0 hb).2, (cell_past h.c1 hb).2, h.own.later hb⟩
theorem ON.new {w : World} {d : Int} {v : Value} {n : Nat} {p c : Nat → Int} (h : OwnAt w v n p c) : ON (w.alloc (.cells #[.int .i64 d, v] 25)) w.heap.size d v n p c :=
  ⟨by rw [World.cell?_alloc_at _ _ _ _ rfl]; rfl, by rw [World.cell?_alloc_at _ _ _ _ rfl]; rfl, h.later (alloc_below _ _)⟩
theorem ON.log {W : World} {B : Nat} {d : Int} {v : Value} {n : Nat} {p c : Nat → Int} (h : ON W B d v n p c) : LogAt W v n p c := by
  have h' := h.own
  obtain ⟨ad, cap, rfl, hl⟩ := log_of_own h'
  exact hl
theorem OkLog.nzc {d : Int} {n : Nat} {p c : Nat → Int} (h : OkLog d n p c) : ∀ i, i < n → c i ≠ 0 := fun i hi => (h.2.2.1 i hi).2.2.1

/-- What logs.Add gives: a form, or an error. -/
def AddRes (da db : Int) (t1 t2 : List (Int × Int)) (W : World) (d : Int) (sv er : Value) : Prop :=
  (∃ dn t, SumOk da db t1 t2 dn t ∧ d = (dn : Nat) ∧ er = .nilIface ∧ ListAt W sv t) ∨ ((∀ dn t, ¬ SumOk da db t1 t2 dn t) ∧ ∃ ad, er = .iface 102 (.pointer (some ad)))
theorem AddRes.later {da db : Int} {t1 t2 : List (Int × Int)} {W W' : World} {d : Int} {sv er : Value} (h : AddRes da db t1 t2 W d sv er) (hb : Below W.heap.size W W') : AddRes da db t1 t2 W' d sv er := by
  rcases h with ⟨dn, t, h1, h2, h3, h4⟩ | h
  · exact Or.inl ⟨dn, t, h1, h2, h3, h4.later hb⟩
  · exact Or.inr h
structure AB (W : World) (B : Nat) (da db : Int) (t1 t2 : List (Int × Int)) (d : Int) (sv er : Value) : Prop where
  c0 : W.cell? ⟨B, 0, none⟩ = some (.int .i64 d)
  c1 : W.cell? ⟨B, 1, none⟩ = some sv
  res : AddRes da db t1 t2 W d sv er
theorem AB.later {W W' : World} {B : Nat} {da db : Int} {t1 t2 : List (Int × Int)} {d : Int} {sv er : Value} (h : AB W B da db t1 t2 d sv er) (hb : Below W.heap.size W W') : AB W' B da db t1 t2 d sv er :=
  ⟨(cell_past h.c0 hb).2, (cell_past h.c1 hb).2, h.res.later hb⟩
theorem AB.more {w : World} {B : Nat} {da db : Int} {t1 t2 : List (Int × Int)} {d : Int} {sv er : Value} (h : AB w B da db t1 t2 d sv er) (X : Obj) : AB (w.alloc X) B da db t1 t2 d sv er := h.later (alloc_below _ _)
theorem AB.new {w : World} {da db : Int} {t1 t2 : List (Int × Int)} {d : Int} {sv er : Value} (h : AddRes da db t1 t2 w d sv er) : AB (w.alloc (.cells #[.int .i64 d, sv] 25)) w.heap.size da db t1 t2 d sv er :=
  ⟨by rw [World.cell?_alloc_at _ _ _ _ rfl]; rfl, by rw [World.cell?_alloc_at _ _ _ _ rfl]; rfl, h.later (alloc_below _ _)⟩

theorem Add_call (da db : Int) (v1 v2 : Value) (t1 t2 : List (Int × Int)) (a : Nat → Addr) (w : World) (h : Errs w a) (hl1 : LogAt w v1 t1.length (pOf t1) (cOf t1)) (hl2 : LogAt w v2 t2.length (pOf t2) (cOf t2)) (hn : t1.length + t2.length ≤ 100) :
    Calls Tryd.prog 7 #[.agg #[.int .i64 da, v1], .agg #[.int .i64 db, v2]] w fun e w' => ∃ d ad n cap er, e = .returned (.tuple #[.agg #[.int .i64 d, .slice ad n cap], er]) ∧ AddRes da db t1 t2 w' d (.slice ad n cap) er ∧ Below w.heap.size w w' := by
  refine (Add_all da db v1 v2 t1 t2 a w h hl1 hl2 hn).mono ?_
  rintro e w' ⟨⟨d, t, v, h1, rfl, h2⟩ | ⟨h1, ad, rfl⟩, hb⟩
  · obtain ⟨ad, n, cap, rfl⟩ := listAt_slice h2
    exact ⟨_, _, _, _, _, rfl, Or.inl ⟨d, t, h1, rfl, rfl, h2⟩, hb⟩
  · exact ⟨_, _, _, _, _, rfl, Or.inr ⟨h1, ad, rfl⟩, hb⟩

/-- The opposite is in form. -/
theorem okTo_back {p c : Nat → Int} : ∀ k, OkTo p c k → OkTo p (fun i => -c i) k := by
  intro k h i hi
  obtain ⟨h1, h2, h3, h4, h5, h6, h7⟩ := h i hi
  exact ⟨h1, h2, by show -c i ≠ 0; omega, by show _ ≤ -c i; omega, by show -c i ≤ _; omega, h6, h7⟩
theorem gcdTo_back (d : Int) (c : Nat → Int) : ∀ k, gcdTo d (fun i => -c i) k = gcdTo d c k
  | 0 => rfl
  | k + 1 => by
    show Int.gcd (gcdTo d (fun i => -c i) k : Int) (-c k) = Int.gcd (gcdTo d c k : Int) (c k)
    rw [gcdTo_back d c k, Int.gcd_neg]
theorem OkLog.back {d : Int} {n : Nat} {p c : Nat → Int} (h : OkLog d n p c) : OkLog d n p (fun i => -c i) :=
  ⟨h.1, h.2.1, okTo_back n h.2.2.1, by rw [gcdTo_back]; exact h.2.2.2⟩
theorem cmpOf_back (a b : Nat) : cmpOf b a = -cmpOf a b ∧ (cmpOf a b = -1 ∨ cmpOf a b = 0 ∨ cmpOf a b = 1) := by
  rcases Nat.lt_trichotomy a b with h | h | h
  · rw [cmpOf_lt h, cmpOf_gt h]; exact ⟨rfl, Or.inl rfl⟩
  · rw [cmpOf_eq h, cmpOf_eq h.symm]; exact ⟨rfl, Or.inr (Or.inl rfl)⟩
  · rw [cmpOf_lt h, cmpOf_gt h]; exact ⟨rfl, Or.inr (Or.inr rfl)⟩

/-- What logs.Grains gives of one in form. -/
def GrRes (d : Int) (t : List (Int × Int)) (z : Int) (er : Value) : Prop :=
  (∃ q, z = q / d ∧ er = .nilIface ∧ IsLog q (sideUp (pOf t) (cOf t) 32 t.length) (sideDown (pOf t) (cOf t) 32 t.length) ∧ -50001 ≤ z ∧ z ≤ 50001) ∨ ∃ ad, er = .iface 102 (.pointer (some ad))
theorem Grains_call (d : Int) (v : Value) (t : List (Int × Int)) (a : Nat → Addr) (w : World) (h : Errs w a) (hl : LogAt w v t.length (pOf t) (cOf t)) (hok : OkLog d t.length (pOf t) (cOf t)) (hn : t.length ≤ 100) :
    Calls Tryd.prog 12 #[.agg #[.int .i64 d, v]] w fun e w' => ∃ z er, e = .returned (.tuple #[.int .i64 z, er]) ∧ GrRes d t z er ∧ Below w.heap.size w w' := by
  by_cases hf : cost (pOf t) (cOf t) t.length ≤ 1250
  · refine (Grains_fit_log d v t.length (pOf t) (cOf t) a hok hf w h hl hn).mono ?_
    rintro e w' ⟨z, rfl, h1, h2, h3, hb⟩
    have := isGr_of h1 h2 h3 (by have := hok.1; omega) hok.2.1
    exact ⟨_, _, rfl, Or.inl ⟨z, rfl, rfl, h1, this.2.2.1, this.2.2.2.1⟩, hb⟩
  · refine (Grains_err_log d v t.length (pOf t) (cOf t) a true ⟨fun _ => hok, fun _ => rfl⟩ (fun _ => hf) w h hl hn).mono ?_
    rintro e w' ⟨rfl, hb⟩
    exact ⟨_, _, rfl, Or.inr ⟨a 1, rfl⟩, hb⟩
theorem gr_sum {da db : Int} {ta tb tx : List (Int × Int)} {dx : Nat} (h : SumOk da db ta tb dx tx) {za zb zx : Int} (la : IsLog za (sideUp (pOf ta) (cOf ta) 32 ta.length) (sideDown (pOf ta) (cOf ta) 32 ta.length)) (lb : IsLog zb (sideUp (pOf tb) (cOf tb) 32 tb.length) (sideDown (pOf tb) (cOf tb) 32 tb.length)) (lx : IsLog zx (sideUp (pOf tx) (cOf tx) 32 tx.length) (sideDown (pOf tx) (cOf tx) 32 tx.length)) :
    zx / (dx : Int) = za / da + zb / db ∨ zx / (dx : Int) = za / da + zb / db + 1 := by
  have h1 := h.1.1
  have h2 := h.2.1.1
  obtain ⟨na, rfl⟩ := Int.eq_ofNat_of_zero_le (show 0 ≤ da by omega)
  obtain ⟨nb, rfl⟩ := Int.eq_ofNat_of_zero_le (show 0 ≤ db by omega)
  have hv := h.2.2.1.val
  simp only [Int.toNat_natCast] at hv
  exact grains_sum h.1 h.2.1 h.ok hv la lb lx

set_option maxRecDepth 100000 in
set_option maxHeartbeats 2000000 in
theorem LogsRing_long (da db dc : Int) (a b c : Option Addr) (na nb nc ca cb cc : Nat) (w : World) (ha : na ≤ maxLen) (hb : nb ≤ maxLen) (hc : nc ≤ maxLen) (h : 30 < na ∨ 30 < nb ∨ 30 < nc) :
    Calls Tryd.prog 4 #[.agg #[.int .i64 da, .slice a na ca], .agg #[.int .i64 db, .slice b nb cb], .agg #[.int .i64 dc, .slice c nc cc]] w fun e w' => e = .returned (.bool true) ∧ Below w.heap.size w w' := by
  have hb0 : Below w.heap.size w (((w.alloc (.cells #[.int .i64 da, .slice a na ca] 25)).alloc (.cells #[.int .i64 db, .slice b nb cb] 25)).alloc (.cells #[.int .i64 dc, .slice c nc cc] 25)) := (((Below.refl _ _).alloc (Nat.le_refl _) _).alloc (by simp) _).alloc (by simp; omega) _
  obtain ⟨⟨x0, x1⟩, ⟨y0, y1⟩, ⟨z0, z1⟩, _, _⟩ := three_cells w (.int .i64 da) (.slice a na ca) (.int .i64 db) (.slice b nb cb) (.int .i64 dc) (.slice c nc cc) 25
  have hE := eighth_any (((w.alloc (.cells #[.int .i64 da, .slice a na ca] 25)).alloc (.cells #[.int .i64 db, .slice b nb cb] 25)).alloc (.cells #[.int .i64 dc, .slice c nc cc] 25))
  rcases (show 30 < na ∨ (na ≤ 30 ∧ 30 < nb) ∨ (na ≤ 30 ∧ nb ≤ 30 ∧ 30 < nc) by omega) with h1 | ⟨h1, h2⟩ | ⟨h1, h2, h3⟩
  · go_enter Tryd.func4, Tryd.ntmps4
    go_wp2_with fail
    refine hE.mono ?_
    clear hE
    rintro e w0 ⟨rfl, hb1⟩
    have x0 := (cell_past x0 hb1).2
    have x1 := (cell_past x1 hb1).2
    have hs := short_any da a na ca false (by simp; omega) ha w0
    go_wp2_with fail
    refine hs.mono ?_
    rintro e w1 ⟨rfl, hb2⟩
    go_wp2_with fail
    go_ret
    exact ⟨rfl, below_chain (below_chain hb0 hb1) hb2⟩
  · go_enter Tryd.func4, Tryd.ntmps4
    go_wp2_with fail
    refine hE.mono ?_
    clear hE
    rintro e w0 ⟨rfl, hb1⟩
    have x0 := (cell_past x0 hb1).2
    have x1 := (cell_past x1 hb1).2
    have y0 := (cell_past y0 hb1).2
    have y1 := (cell_past y1 hb1).2
    have hs := short_any da a na ca true (by simp; omega) ha w0
    go_wp2_with fail
    refine hs.mono ?_
    rintro e w1 ⟨rfl, hb2⟩
    have y0 := (cell_past y0 hb2).2
    have y1 := (cell_past y1 hb2).2
    have hs := short_any db b nb cb false (by simp; omega) hb w1
    go_wp2_with fail
    refine hs.mono ?_
    rintro e w2 ⟨rfl, hb3⟩
    go_wp2_with fail
    go_ret
    exact ⟨rfl, below_chain (below_chain (below_chain hb0 hb1) hb2) hb3⟩
  · go_enter Tryd.func4, Tryd.ntmps4
    go_wp2_with fail
    refine hE.mono ?_
    clear hE
    rintro e w0 ⟨rfl, hb1⟩
    have x0 := (cell_past x0 hb1).2
    have x1 := (cell_past x1 hb1).2
    have y0 := (cell_past y0 hb1).2
    have y1 := (cell_past y1 hb1).2
    have z0 := (cell_past z0 hb1).2
    have z1 := (cell_past z1 hb1).2
    have hs := short_any da a na ca true (by simp; omega) ha w0
    go_wp2_with fail
    refine hs.mono ?_
    rintro e w1 ⟨rfl, hb2⟩
    have y0 := (cell_past y0 hb2).2
    have y1 := (cell_past y1 hb2).2
    have z0 := (cell_past z0 hb2).2
    have z1 := (cell_past z1 hb2).2
    have hs := short_any db b nb cb true (by simp; omega) hb w1
    go_wp2_with fail
    refine hs.mono ?_
    rintro e w2 ⟨rfl, hb3⟩
    have z0 := (cell_past z0 hb3).2
    have z1 := (cell_past z1 hb3).2
    have hs := short_any dc c nc cc false (by simp; omega) hc w2
    go_wp2_with fail
    refine hs.mono ?_
    rintro e w3 ⟨rfl, hb4⟩
    go_wp2_with fail
    go_ret
    exact ⟨rfl, below_chain (below_chain (below_chain (below_chain hb0 hb1) hb2) hb3) hb4⟩
end Go.Proofs.YtiecbconcdncmabDoor
