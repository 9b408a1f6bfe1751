/- The law LogsAdds, walked. -/
import Derived.Test.YtkcpmfilencekabGreatDoorAddsLaw
namespace Go.Proofs.YtkcpmfilencekabGreatDoor
open Go.RowKit

theorem own_set {w : World} {v : Value} {n : Nat} {p c : Nat → Int} {B : Nat} {ad : Option Addr} {l cap : Nat} {x y : Value} (h : OwnAt w v n p c) (hx : w.cell? ⟨B, 1, none⟩ = some (.slice ad l cap)) : OwnAt ((w.setCell ⟨B, 0, none⟩ x).setCell ⟨B, 1, none⟩ y) v n p c := by
  rcases h with h | ⟨g, cap', rfl, ht⟩
  · exact Or.inl h
  · refine Or.inr ⟨g, cap', rfl, fun i hi => ?_⟩
    have hne : B ≠ g := fun e => by
      have h1 := (ht 0 (by omega)).2
      rw [← e] at h1
      simp only [Nat.zero_mul, Nat.zero_add] at h1
      rw [hx] at h1
      cases h1
    constructor
    · rw [World.cell?_setCell_far _ _ _ _ hne, World.cell?_setCell_far _ _ _ _ hne]; exact (ht i hi).1
    · rw [World.cell?_setCell_far _ _ _ _ hne, World.cell?_setCell_far _ _ _ _ hne]; exact (ht i hi).2
theorem SaidOf.set {M : Nat} {l : List (Int × Int)} {a : Nat → Addr} {w : World} {dn : Int} {v er : Value} {B : Nat} {ad : Option Addr} {n cap : Nat} {x y : Value} (ht : SaidOf M l a w dn v er) (hx : w.cell? ⟨B, 1, none⟩ = some (.slice ad n cap)) : SaidOf M l a ((w.setCell ⟨B, 0, none⟩ x).setCell ⟨B, 1, none⟩ y) dn v er := by
  rcases ht with ⟨h1, h2, h3, h4⟩ | h
  · exact Or.inl ⟨h1, h2, h3, own_set h4 hx⟩
  · exact Or.inr h
theorem ToldOf.set {M : Nat} {l : List (Int × Int)} {w : World} {dn code : Int} {v : Value} {B : Nat} {ad : Option Addr} {n cap : Nat} {x y : Value} (ht : ToldOf M l w dn v code) (hx : w.cell? ⟨B, 1, none⟩ = some (.slice ad n cap)) : ToldOf M l ((w.setCell ⟨B, 0, none⟩ x).setCell ⟨B, 1, none⟩ y) dn v code := by
  rcases ht with ⟨h1, h2, h3, h4⟩ | h
  · exact Or.inl ⟨h1, h2, h3, own_set h4 hx⟩
  · exact Or.inr h
/-- A logarithm's box, ahead of its store. -/
structure NewBoxL (W0 W : World) (B : Nat) : Prop where
  c0 : W.cell? ⟨B, 0, none⟩ = some (.int .i64 0)
  c1 : W.cell? ⟨B, 1, none⟩ = some (.slice none 0 0)
  f0 : W.frozen? ⟨B, 0, none⟩ = false
  f1 : W.frozen? ⟨B, 1, none⟩ = false
  hB : W0.heap.size ≤ B
theorem NewBoxL.later {W0 W W' : World} {B : Nat} (h : NewBoxL W0 W B) (hb : Below W.heap.size W W') : NewBoxL W0 W' B :=
  ⟨(cell_past h.c0 hb).2, (cell_past h.c1 hb).2, (frozen_past h.c0 h.f0 hb).2, (frozen_past h.c1 h.f1 hb).2, h.hB⟩
theorem newBoxL_of {W0 W W' : World} (h : Below W0.heap.size W0 W) (hb : Below (W.alloc (.cells #[.int .i64 0, .slice none 0 0] 24)).heap.size (W.alloc (.cells #[.int .i64 0, .slice none 0 0] 24)) W') : NewBoxL W0 W' W.heap.size := by
  obtain ⟨c0, c1, f0, f1⟩ := res_past hb
  exact ⟨c0, c1, f0, f1, h.size⟩
/-- The program's answer in its box. -/
structure SaidBox (W0 W : World) (B : Nat) (M : Nat) (l : List (Int × Int)) (a : Nat → Addr) (er : Value) : Prop where
  below : Below W0.heap.size W0 W
  box : ∃ dn ad n cap, W.cell? ⟨B, 0, none⟩ = some (.int .i64 dn) ∧ W.cell? ⟨B, 1, none⟩ = some (.slice ad n cap) ∧ SaidOf M l a W dn (.slice ad n cap) er
theorem saidBox_late {W0 W : World} {M : Nat} {l : List (Int × Int)} {a : Nat → Addr} {er : Value} {dn : Int} {ad : Option Addr} {n cap : Nat} (h : Below W0.heap.size W0 W) (hs : SaidOf M l a W dn (.slice ad n cap) er) : SaidBox W0 (W.alloc (.cells #[.int .i64 dn, .slice ad n cap] 24)) W.heap.size M l a er :=
  ⟨more_below h _, dn, ad, n, cap, by rw [World.cell?_alloc_at _ _ _ _ rfl]; rfl, by rw [World.cell?_alloc_at _ _ _ _ rfl]; rfl, hs.later (new_below _ _)⟩
theorem saidBox_soon {W0 W : World} {B M : Nat} {l : List (Int × Int)} {a : Nat → Addr} {er : Value} {dn : Int} {ad : Option Addr} {n cap : Nat} (h : Below W0.heap.size W0 W) (hs : SaidOf M l a W dn (.slice ad n cap) er) (hn : NewBoxL W0 W B) : SaidBox W0 ((W.setCell ⟨B, 0, none⟩ (.int .i64 dn)).setCell ⟨B, 1, none⟩ (.slice ad n cap)) B M l a er :=
  ⟨setB_below h hn.hB _ _, dn, ad, n, cap, by rw [World.cell?_setCell_other _ _ _ _ (by simp)]; exact World.cell?_setCell_same _ _ _ hn.c0, World.cell?_setCell_same _ _ _ (by rw [World.cell?_setCell_other _ _ _ _ (by simp)]; exact hn.c1), hs.set hn.c1⟩
/-- The document's answer in its box. -/
structure ToldBox (W0 W : World) (B : Nat) (M : Nat) (l : List (Int × Int)) (code : Int) : Prop where
  below : Below W0.heap.size W0 W
  box : ∃ dn ad n cap, W.cell? ⟨B, 0, none⟩ = some (.int .i64 dn) ∧ W.cell? ⟨B, 1, none⟩ = some (.slice ad n cap) ∧ ToldOf M l W dn (.slice ad n cap) code
theorem toldBox_soon {W0 W : World} {B M : Nat} {l : List (Int × Int)} {code dn : Int} {ad : Option Addr} {n cap : Nat} (h : Below W0.heap.size W0 W) (hs : ToldOf M l W dn (.slice ad n cap) code) (hn : NewBoxL W0 W B) : ToldBox W0 ((W.setCell ⟨B, 0, none⟩ (.int .i64 dn)).setCell ⟨B, 1, none⟩ (.slice ad n cap)) B M l code :=
  ⟨setB_below h hn.hB _ _, dn, ad, n, cap, by rw [World.cell?_setCell_other _ _ _ _ (by simp)]; exact World.cell?_setCell_same _ _ _ hn.c0, World.cell?_setCell_same _ _ _ (by rw [World.cell?_setCell_other _ _ _ _ (by simp)]; exact hn.c1), hs.set hn.c1⟩

theorem own_logAt {w : World} {v : Value} {n : Nat} {p c : Nat → Int} (h : (v = .slice none 0 0 ∧ n = 0) ∨ ∃ g cap, v = .slice (some ⟨g, 0, none⟩) n cap ∧ TermsAt w g 0 n p c) : ∃ ad cap, v = .slice ad n cap ∧ LogAt w v n p c := by
  rcases h with ⟨rfl, rfl⟩ | ⟨g, cap, rfl, ht⟩
  · exact ⟨none, 0, rfl, Or.inl ⟨none, 0, rfl, rfl⟩⟩
  · rcases Nat.eq_zero_or_pos n with rfl | hn
    · exact ⟨_, cap, rfl, Or.inl ⟨_, cap, rfl, rfl⟩⟩
    · exact ⟨_, cap, rfl, Or.inr ⟨g, 0, cap, rfl, hn, ht⟩⟩
/-- What the law's boxes hold. -/
structure TwoLogs (w : World) (a : Nat → Addr) (da db : Int) (s1 s2 : Value) (n1 n2 : Nat) (p1 c1 p2 c2 : Nat → Int) (W : World) : Prop where
  errs : Errs W a
  log1 : LogAt W s1 n1 p1 c1
  log2 : LogAt W s2 n2 p2 c2
  x0 : W.cell? ⟨w.heap.size, 0, none⟩ = some (.int .i64 da)
  x1 : W.cell? ⟨w.heap.size, 1, none⟩ = some s1
  y0 : W.cell? ⟨w.heap.size + 1, 0, none⟩ = some (.int .i64 db)
  y1 : W.cell? ⟨w.heap.size + 1, 1, none⟩ = some s2
  below : Below w.heap.size w W
theorem twoLogs {w W : World} {a : Nat → Addr} {da db : Int} {ad1 ad2 : Option Addr} {m1 m2 cap1 cap2 n1 n2 : Nat} {p1 c1 p2 c2 : Nat → Int} (h : Errs w a) (hl1 : LogAt w (.slice ad1 m1 cap1) n1 p1 c1) (hl2 : LogAt w (.slice ad2 m2 cap2) n2 p2 c2)
    (hb : Below ((w.alloc (.cells #[.int .i64 da, .slice ad1 m1 cap1] 24)).alloc (.cells #[.int .i64 db, .slice ad2 m2 cap2] 24)).heap.size ((w.alloc (.cells #[.int .i64 da, .slice ad1 m1 cap1] 24)).alloc (.cells #[.int .i64 db, .slice ad2 m2 cap2] 24)) W) : TwoLogs w a da db (.slice ad1 m1 cap1) (.slice ad2 m2 cap2) n1 n2 p1 c1 p2 c2 W := by
  have h0 := below_chain (more_below (new_below w (.cells #[.int .i64 da, .slice ad1 m1 cap1] 24)) (.cells #[.int .i64 db, .slice ad2 m2 cap2] 24)) hb
  obtain ⟨q0, q1, _, _⟩ := res_past (below_chain (new_below (w.alloc (.cells #[.int .i64 da, .slice ad1 m1 cap1] 24)) (.cells #[.int .i64 db, .slice ad2 m2 cap2] 24)) hb)
  obtain ⟨q2, q3, _, _⟩ := res_past hb
  simp only [World.size_alloc] at q2 q3
  exact ⟨h.below h0, hl1.later h0, hl2.later h0, q0, q1, q2, q3, h0⟩

set_option maxRecDepth 100000 in
set_option maxHeartbeats 4000000 in
theorem LogsAdds_ok (da db : Nat) (ad1 ad2 : Option Addr) (cap1 cap2 : Nat) (t1 t2 : List (Int × Int)) (a : Nat → Addr) (w : World) (h : Errs w a) (hl1 : LogAt w (.slice ad1 t1.length cap1) t1.length (pOf t1) (cOf t1)) (hl2 : LogAt w (.slice ad2 t2.length cap2) t2.length (pOf t2) (cOf t2))
    (hok1 : OkLog da t1.length (pOf t1) (cOf t1)) (hok2 : OkLog db t2.length (pOf t2) (cOf t2)) (hn1 : t1.length ≤ 30) (hn2 : t2.length ≤ 30) :
    Calls Tryz.prog 3 #[.agg #[.int .i64 da, .slice ad1 t1.length cap1], .agg #[.int .i64 db, .slice ad2 t2.length cap2]] w fun e w' => e = .returned (.bool true) ∧ Below w.heap.size w w' := by
  obtain ⟨g, hg⟩ : ∃ g, g = Int.gcd (da : Int) (db : Int) := ⟨_, rfl⟩
  obtain ⟨n1, hn1e⟩ : ∃ n1, n1 = t1.length := ⟨_, rfl⟩
  obtain ⟨n2, hn2e⟩ : ∃ n2, n2 = t2.length := ⟨_, rfl⟩
  have HK := Hid.mk' (fun (W : World) => twoLogs (W := W) (da := (da : Int)) (db := (db : Int)) h hl1 hl2)
  have HSUM : Hid (∀ (W : World) (xv yv : Value), LogAt W (.slice ad1 t1.length cap1) t1.length (pOf t1) (cOf t1) → LogAt W (.slice ad2 t2.length cap2) t2.length (pOf t2) (cOf t2) → RatioAt W xv 1 1 → RatioAt W yv 1 1 → _) := fun W xv yv h1 h2 h3 h4 => LogSum_two da db g xv yv ad1 ad2 cap1 cap2 t1 t2 W h1 h2 h3 h4 hok1 hok2 hn1 hn2 hg
  have HADD : Hid (∀ (W : World) (ad1 ad2 : Option Addr) (cap1 cap2 : Nat), Errs W a → LogAt W (.slice ad1 t1.length cap1) t1.length (pOf t1) (cOf t1) → LogAt W (.slice ad2 t2.length cap2) t2.length (pOf t2) (cOf t2) → _) := fun W ad1 ad2 cap1 cap2 h1 h2 h3 => Add_said da db ad1 ad2 cap1 cap2 t1 t2 a W h1 h2 h3 hok1 hok2 (by omega) g hg
  have HOK := Hid.mk' (And.intro hok1 hok2)
  have HG := Hid.mk' hg
  have hE := eighth_any ((w.alloc (.cells #[.int .i64 da, .slice ad1 t1.length cap1] 24)).alloc (.cells #[.int .i64 db, .slice ad2 t2.length cap2] 24))
  obtain ⟨W0, hW0⟩ : ∃ W0, W0 = (w.alloc (.cells #[.int .i64 da, .slice ad1 t1.length cap1] 24)).alloc (.cells #[.int .i64 db, .slice ad2 t2.length cap2] 24) := ⟨_, rfl⟩
  rw [← hW0] at hE HK
  have HW0 := Hid.mk' hW0
  clear h hl1 hl2 hok1 hok2 hg hW0
  rw [← hn1e, ← hn2e] at HK HSUM HADD HOK HW0 ⊢
  rw [← hn1e] at hn1
  rw [← hn2e] at hn2
  have HN := Hid.mk' (And.intro hn1e hn2e)
  clear hn1e hn2e
  go_enter Tryz.func3, Tryz.ntmps3
  go_wp2_with fail
  rw [← HW0.out]
  refine hE.mono ?_
  clear hE
  rintro e w1 ⟨rfl, hb1⟩
  have k1 := HK.out w1 hb1
  have x0 := k1.x0
  have x1 := k1.x1
  have hsh := short_any da ad1 n1 cap1 true (by simpa using hn1) (by unfold maxLen; omega) w1
  have HB1 := Hid.mk' hb1
  clear hb1 k1
  go_wp2_with fail
  refine hsh.mono ?_
  clear hsh x0 x1
  rintro e w2 ⟨rfl, hb2⟩
  have HB2 := Hid.mk' (below_chain HB1.out hb2)
  have k2 := HK.out w2 HB2.out
  have y0 := k2.y0
  have y1 := k2.y1
  have hsh := short_any db ad2 n2 cap2 true (by simpa using hn2) (by unfold maxLen; omega) w2
  clear hb2 k2
  go_wp2_with fail
  refine hsh.mono ?_
  clear hsh y0 y1
  rintro e w3 ⟨rfl, hb3⟩
  have HB3 := Hid.mk' (below_chain HB2.out hb3)
  have k3 := HK.out w3 HB3.out
  have x0 := k3.x0
  have x1 := k3.x1
  have hle := LogError_at da (.slice ad1 n1 cap1) n1 true _ _ ⟨fun _ => HOK.out.1, fun _ => rfl⟩ w3 k3.log1 hn1
  simp only [shapeCode] at hle
  clear hb3 k3
  go_wp2_with fail
  refine hle.mono ?_
  clear hle x0 x1
  rintro e w4 ⟨rfl, hb4⟩
  have HB4 := Hid.mk' (below_chain HB3.out hb4)
  have k4 := HK.out w4 HB4.out
  have y0 := k4.y0
  have y1 := k4.y1
  have hle := LogError_at db (.slice ad2 n2 cap2) n2 true _ _ ⟨fun _ => HOK.out.2, fun _ => rfl⟩ w4 k4.log2 hn2
  simp only [shapeCode] at hle
  clear hb4 k4
  go_wp2_with fail
  refine hle.mono ?_
  clear hle y0 y1
  rintro e w5 ⟨rfl, hb5⟩
  have HB5 := Hid.mk' (below_chain HB4.out hb5)
  clear hb5 HB1 HB2 HB3 HB4
  go_upto_region 10 with fail
  have HNB0 : Hid (∀ W, Below (w5.alloc (.cells #[.int .i64 0, .slice none 0 0] 24)).heap.size (w5.alloc (.cells #[.int .i64 0, .slice none 0 0] 24)) W → NewBoxL W0 W w5.heap.size) := fun W hb => newBoxL_of HB5.out hb
  have HB6 : Hid (Below W0.heap.size W0 (w5.alloc (.cells #[.int .i64 0, .slice none 0 0] 24))) := more_below HB5.out _
  obtain ⟨W6, hW6⟩ : ∃ W6, W6 = w5.alloc (.cells #[.int .i64 0, .slice none 0 0] 24) := ⟨_, rfl⟩
  rw [← hW6] at HNB0 HB6 ⊢
  clear hW6
  have hcur0 : Below W6.heap.size W6 W6 := Below.refl _ _
  have hcur : Below W6.heap.size W6 W6.drew := (Below.refl _ _).drew
  have HKS : Hid (∀ W, Below W0.heap.size W0 W → (W.cell? ⟨w.heap.size, 0, none⟩ = some (.int .i64 da) ∧ W.cell? ⟨w.heap.size, 1, none⟩ = some (.slice ad1 n1 cap1)) ∧ (W.cell? ⟨w.heap.size + 1, 0, none⟩ = some (.int .i64 db) ∧ W.cell? ⟨w.heap.size + 1, 1, none⟩ = some (.slice ad2 n2 cap2))) := fun W hb => by
    have k := HK.out W hb
    exact ⟨⟨k.x0, k.x1⟩, k.y0, k.y1⟩
  go_cut [7] from 34 (fun s wx => ∃ (l : List (Int × Int)) (code : Int), s = .int .i64 code ∧ Hid (Rising l ∧ ∀ x, atL l x = atL t1 x * ((db / g : Nat) : Int) + atL t2 x * ((da / g : Nat) : Int)) ∧ Hid (ToldBox W0 wx w5.heap.size (da / g * db) l code))
  case first =>
    go_region_held3 (fun W => (W.cell? ⟨w.heap.size, 0, none⟩ = some (.int .i64 da) ∧ W.cell? ⟨w.heap.size, 1, none⟩ = some (.slice ad1 n1 cap1)) ∧ (W.cell? ⟨w.heap.size + 1, 0, none⟩ = some (.int .i64 db) ∧ W.cell? ⟨w.heap.size + 1, 1, none⟩ = some (.slice ad2 n2 cap2)))
      (first | exact HKS.out _ (below_chain HB6.out hcur0) | exact HKS.out _ (below_chain HB6.out hcur) | exact HKS.out _ (below_chain HB6.out hbw7) | exact HKS.out _ (below_chain HB6.out hbw8) | exact HKS.out _ (below_chain HB6.out hbw9) | exact HKS.out _ (setB_below (below_chain HB6.out hbw9) HB5.out.size _ _))
      (first
        | (go_at_call 9; refine (HSUM.out _ _ _ (HK.out _ (below_chain HB6.out hbw8)).log1 (HK.out _ (below_chain HB6.out hbw8)).log2 (HR7.out.later hb78) HR8.out).mono ?_; rintro e w9 ⟨l, dn, ad, len, cap, code, rfl, hr, hv, ht, hb9⟩; have hbw9 := below_chain hbw8 hb9; have nb := HNB0.out _ hbw9; have z0 := nb.c0; have z1 := nb.c1; have z2 := nb.f0; have z3 := nb.f1; have HT := Hid.mk' ht; have HRV := Hid.mk' (And.intro hr hv); clear hr hv ht hb9)
        | (go_at_call 10; refine (one_one w7).mono ?_; rintro e w8 ⟨r8, rfl, hr8, hb8⟩; have hbw8 := below_chain hbw7 hb8; have hb78 := hb8; have HR8 := Hid.mk' hr8; clear hr8 hb8)
        | (go_at_call 10; refine (one_one _).mono ?_; rintro e w7 ⟨r7, rfl, hr7, hb7⟩; have hbw7 := below_chain hcur hb7; have HR7 := Hid.mk' hr7; clear hr7 hb7))
    all_goals
      go_wp2_with fail
      go_meet
      exact ⟨_, _, rfl, HRV, toldBox_soon (below_chain HB6.out hbw9) HT.out nb⟩
  case rest =>
  obtain ⟨l, code, rfl, HRV, HTB⟩ := hcut
  obtain ⟨Wm, hWm⟩ : ∃ Wm, Wm = wc := ⟨_, rfl⟩
  rw [← hWm] at HTB ⊢
  clear hWm hcur hcur0 HB6 HNB0 HSUM
  have hcur0 : Below Wm.heap.size Wm Wm := Below.refl _ _
  have hcur : Below Wm.heap.size Wm Wm.drew := (Below.refl _ _).drew
  have hcurA : ∀ X, Below Wm.heap.size Wm (Wm.alloc X).drew := fun X => (new_below _ _).drew
  have HBM := Hid.mk' HTB.out.below
  go_upto_region 11 with fail
  go_cut [9, 10] from 42 (fun s r wx => ∃ (Bs : Nat) (er : Value) (l2 : List (Int × Int)), s = .pointer (some ⟨Bs, 0, none⟩) ∧ r = er ∧ Hid (Rising l2 ∧ (∀ x, atL l2 x = atL t1 x * ((db / g : Nat) : Int) + atL t2 x * ((da / g : Nat) : Int)) ∧ l2.length ≤ n1 + n2) ∧ Hid (SaidBox Wm wx Bs (da / g * db) l2 a er))
  case first =>
    go_region_held3 (fun W => (W.cell? ⟨w.heap.size, 0, none⟩ = some (.int .i64 da) ∧ W.cell? ⟨w.heap.size, 1, none⟩ = some (.slice ad1 n1 cap1)) ∧ (W.cell? ⟨w.heap.size + 1, 0, none⟩ = some (.int .i64 db) ∧ W.cell? ⟨w.heap.size + 1, 1, none⟩ = some (.slice ad2 n2 cap2)))
      (first | exact HKS.out _ (below_chain HBM.out hcur0) | exact HKS.out _ (below_chain HBM.out hcur) | exact HKS.out _ (below_chain HBM.out (hcurA _)) | exact HKS.out _ (below_chain HBM.out hbw7) | exact HKS.out _ (below_chain HBM.out hbw8) | exact HKS.out _ (below_chain HBM.out hbw9) | exact HKS.out _ (below_chain HBM.out (more_below hbw7 _)) | exact HKS.out _ (below_chain HBM.out (more_below hbw8 _)) | exact HKS.out _ (below_chain HBM.out (more_below hbw9 _)) | exact HKS.out _ (below_chain HBM.out (setB_below hbw9 NB.hB _ _)))
      (first
        | (go_at_call 11; have hz8 := hbw8; clear hz8; refine (HADD.out _ _ _ _ _ ?_ ?_ ?_).mono ?_; (first | exact (HK.out _ (below_chain HBM.out hbw8)).errs | exact (HK.out _ (below_chain HBM.out (more_below hbw8 _))).errs); (first | exact HL7.out.later h78 | exact HL7.out.later (more_below h78 _)); (first | exact HL8.out | exact HL8.out.later (new_below _ _)); rintro e w9 ⟨l2, dn, ad, len, cap, er, rfl, hr, hv, hln, ht, hb9⟩; (first | (have hbw9 := below_chain hbw8 hb9; try have NB := NB.later hb9) | (have hbw9 := below_chain (more_below hbw8 _) hb9; have NB := newBoxL_of hbw8 hb9)); (try (have z0 := NB.c0; have z1 := NB.c1; have z2 := NB.f0; have z3 := NB.f1)); have HT := Hid.mk' ht; have HR2 := Hid.mk' (And.intro hr (And.intro hv hln)); clear hr hv hln ht hb9)
        | (go_at_call 12; have hz7 := hbw7; clear hz7; refine (own_at db _ n2 (pOf t2) (cOf t2) _ ?_ hn2).mono ?_; (first | exact (HK.out _ (below_chain HBM.out hbw7)).log2 | exact (HK.out _ (below_chain HBM.out (more_below hbw7 _))).log2); rintro e w8 ⟨sv8, rfl, hs8, hb8⟩; (first | (have hbw8 := below_chain hbw7 hb8; have h78 := below_chain (Below.refl _ w7) hb8; try have NB := NB.later hb8) | (have hbw8 := below_chain (more_below hbw7 _) hb8; have h78 := below_chain (new_below w7 _) hb8; have NB := newBoxL_of hbw7 hb8)); obtain ⟨ad8, cap8, rfl, hl8⟩ := own_logAt hs8; have HL8 := Hid.mk' hl8; clear hs8 hb8 hl8)
        | (go_at_call 12; refine (own_at da _ n1 (pOf t1) (cOf t1) _ ?_ hn1).mono ?_; (first | exact (HK.out _ (below_chain HBM.out hcur)).log1 | exact (HK.out _ (below_chain HBM.out (hcurA _))).log1); rintro e w7 ⟨sv7, rfl, hs7, hb7⟩; (first | have hbw7 := below_chain hcur hb7 | (have hbw7 := below_chain (hcurA _) hb7; have NB := newBoxL_of hcur0 (below_chain ((Below.refl _ _).drew) hb7))); obtain ⟨ad7, cap7, rfl, hl7⟩ := own_logAt hs7; have HL7 := Hid.mk' hl7; clear hs7 hb7 hl7))
    all_goals
      go_wp2_with fail
      go_meet
      first | exact ⟨_, _, _, rfl, rfl, HR2, saidBox_late hbw9 HT.out⟩ | exact ⟨_, _, _, rfl, rfl, HR2, saidBox_soon hbw9 HT.out NB⟩
  case rest =>
  obtain ⟨Bs, er, l2, rfl, rfl, HR2, HSB⟩ := hcut
  obtain ⟨dn1, ad7, len7, cap7, s0, s1, hsd⟩ := HSB.out.box
  obtain ⟨dn2, ad8, len8, cap8, r0, r1, htd⟩ := HTB.out.box
  have r0' := (cell_past r0 HSB.out.below).2
  have r1' := (cell_past r1 HSB.out.below).2
  have htd' := (htd.later HSB.out.below).same HRV.out.1 HR2.out.1 (fun x => by rw [HRV.out.2, HR2.out.2.1])
  have hbc := below_chain HBM.out HSB.out.below
  have his := isLog_said (da / g * db) l2 a wc (HK.out _ hbc).errs (by have := HR2.out.2.2; omega) dn1 dn2 code ad7 ad8 len7 len8 cap7 cap8 _ hsd htd'
  have HBC := Hid.mk' hbc
  clear r0 r1 hsd htd htd' hbc
  go_wp2_with fail
  refine his.mono ?_
  clear his
  rintro e w12 ⟨rfl, hb12⟩
  go_wp2_with fail
  go_ret
  exact ⟨rfl, (HK.out _ (below_chain HBC.out hb12)).below⟩
end Go.Proofs.YtkcpmfilencekabGreatDoor
