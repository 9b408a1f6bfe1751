/- logs.Add where the sum has a form. -/
import Derived.Test.YtofflboheiflaaaGreatDoorPutT
import Derived.Test.YtofflboheiflaaaGreatDoorValidLog
import Derived.Deep.CutRange
namespace Go.Proofs.YtofflboheiflaaaGreatDoor
open Go.RowKit Go.Maps

/-- What the walk of Add keeps from a world on. -/
structure AddKeeps (B : Nat) (da db : Nat) (s1 s2 : Value) (n1 n2 : Nat) (t1 t2 : List (Int × Int)) (W : World) : Prop where
  a0 : W.cell? ⟨B, 0, none⟩ = some (.int .i64 da)
  a1 : W.cell? ⟨B, 1, none⟩ = some s1
  b0 : W.cell? ⟨B + 1, 0, none⟩ = some (.int .i64 db)
  b1 : W.cell? ⟨B + 1, 1, none⟩ = some s2
  r0 : W.cell? ⟨B + 1 + 1, 0, none⟩ = some (.int .i64 0)
  r1 : W.cell? ⟨B + 1 + 1, 1, none⟩ = some (.slice none 0 0)
  f0 : W.frozen? ⟨B + 1 + 1, 0, none⟩ = false
  f1 : W.frozen? ⟨B + 1 + 1, 1, none⟩ = false
  l1 : LogAt W s1 n1 (pOf t1) (cOf t1)
  l2 : LogAt W s2 n2 (pOf t2) (cOf t2)
theorem AddKeeps.later {B da db : Nat} {s1 s2 : Value} {n1 n2 : Nat} {t1 t2 : List (Int × Int)} {W W' : World} (h : AddKeeps B da db s1 s2 n1 n2 t1 t2 W) (hb : Below W.heap.size W W') : AddKeeps B da db s1 s2 n1 n2 t1 t2 W' :=
  ⟨(cell_past h.a0 hb).2, (cell_past h.a1 hb).2, (cell_past h.b0 hb).2, (cell_past h.b1 hb).2, (cell_past h.r0 hb).2, (cell_past h.r1 hb).2, (frozen_past h.r0 h.f0 hb).2, (frozen_past h.r1 h.f1 hb).2, h.l1.later hb, h.l2.later hb⟩

theorem box_past {w3 w4 : World} {x y : Value} {t : TypeId} (hb : Below ((w3.alloc (.cells #[x, y] t)).drew).heap.size ((w3.alloc (.cells #[x, y] t)).drew) w4) : w4.cell? ⟨w3.heap.size, 0, none⟩ = some x ∧ w4.cell? ⟨w3.heap.size, 1, none⟩ = some y ∧ w4.frozen? ⟨w3.heap.size, 0, none⟩ = false ∧ w4.frozen? ⟨w3.heap.size, 1, none⟩ = false := by
  have h : Below (w3.alloc (.cells #[x, y] t)).heap.size (w3.alloc (.cells #[x, y] t)) w4 := below_chain ((Below.refl _ _).drew) hb
  have c0 : (w3.alloc (.cells #[x, y] t)).cell? ⟨w3.heap.size, 0, none⟩ = some x := by rw [World.cell?_alloc_at _ _ _ _ rfl]; rfl
  have c1 : (w3.alloc (.cells #[x, y] t)).cell? ⟨w3.heap.size, 1, none⟩ = some y := by rw [World.cell?_alloc_at _ _ _ _ rfl]; rfl
  exact ⟨(cell_past c0 h).2, (cell_past c1 h).2, (frozen_past c0 (frozen_new rfl) h).2, (frozen_past c1 (frozen_new rfl) h).2⟩
theorem below_set {w3 w4 : World} (hc : Below w3.heap.size w3 w4) (x y : Value) : Below w3.heap.size w3 ((w4.setCell ⟨w3.heap.size, 0, none⟩ x).setCell ⟨w3.heap.size, 1, none⟩ y) := (hc.setCell (Nat.le_refl _) _).setCell (Nat.le_refl _) _
theorem quo_i64 {a b : Nat} (h : a ≤ 1000000) : IntKind.i64.wrap ((a : Int) / (b : Int)) = ((a / b : Nat) : Int) := by
  have h0 : (a : Int) / (b : Int) = ((a / b : Nat) : Int) := by simp
  have h1 : a / b ≤ a := Nat.div_le_self _ _
  rw [h0, IntKind.wrap_i64]
  generalize a / b = q at h1
  omega
theorem below_alloc {w W : World} (h : Below w.heap.size w W) (X : Obj) : Below w.heap.size w (W.alloc X) := h.alloc h.size X

/-- The new sum's box and its map. -/
structure SumBox (w3 wx : World) (Bs mb : Nat) (D : Int) : Prop where
  below : Below w3.heap.size w3 wx
  s0 : wx.cell? ⟨Bs, 0, none⟩ = some (.int .i64 D)
  s1 : wx.cell? ⟨Bs, 1, none⟩ = some (.map (some mb))
  own : wx.ownsMap Tryz.prog 3 (plainElem (H := Unit) Tryz.prog 3) mb 0 (mapOf [])
  hB : w3.heap.size ≤ Bs
  hm : w3.heap.size ≤ mb
theorem sumBox_late {w3 w4 : World} {D : Int} (ho : w4.ownsMap Tryz.prog 3 (plainElem (H := Unit) Tryz.prog 3) (w3.heap.size + 1) 0 (.map [])) (hc : Below w3.heap.size w3 w4) : SumBox w3 (w4.alloc (.cells #[.int .i64 D, .map (some (w3.heap.size + 1))] 103)) w4.heap.size (w3.heap.size + 1) D :=
  ⟨below_alloc hc _, by rw [World.cell?_alloc_at _ _ _ _ rfl]; rfl, by rw [World.cell?_alloc_at _ _ _ _ rfl]; rfl, ownsMap_later ho (Below.heap_alloc _ _ _ ho.lt), hc.size, by omega⟩
theorem sumBox_soon {w3 w4 : World} {D : Int} {u v : Value} (ho : w4.ownsMap Tryz.prog 3 (plainElem (H := Unit) Tryz.prog 3) (w3.heap.size + 1 + 1) 0 (.map [])) (hc : Below w3.heap.size w3 w4) (h0 : w4.cell? ⟨w3.heap.size, 0, none⟩ = some u) (h1 : w4.cell? ⟨w3.heap.size, 1, none⟩ = some v) :
    SumBox w3 ((w4.setCell ⟨w3.heap.size, 0, none⟩ (.int .i64 D)).setCell ⟨w3.heap.size, 1, none⟩ (.map (some (w3.heap.size + 1 + 1)))) w3.heap.size (w3.heap.size + 1 + 1) D := by
  refine ⟨below_set hc _ _, ?_, ?_, ownsMap_later ho ?_, Nat.le_refl _, by omega⟩
  · rw [World.cell?_setCell_other _ _ _ _ (by simp)]; exact World.cell?_setCell_same _ _ _ h0
  · exact World.cell?_setCell_same _ _ _ (by rw [World.cell?_setCell_other _ _ _ _ (by simp)]; exact h1)
  · rw [Below.heap_setCell _ _ _ _ (by show w3.heap.size + 1 + 1 ≠ w3.heap.size; omega), Below.heap_setCell _ _ _ _ (by show w3.heap.size + 1 + 1 ≠ w3.heap.size; omega)]
theorem grown_below {w3 W W' : World} {mb : Nat} (h : Below w3.heap.size w3 W) (hg : W.grownBy W' (some mb)) (hm : w3.heap.size ≤ mb) : Below w3.heap.size w3 W' :=
  h.grown hg h.size (fun k e => by cases e; exact hm)

set_option maxRecDepth 100000 in
set_option maxHeartbeats 2000000 in
theorem Add_ok (da db : Nat) (ad1 ad2 : Option Addr) (cap1 cap2 : Nat) (t1 t2 : List (Int × Int)) (a : Nat → Addr) (w : World) (h : Errs w a) (hl1 : LogAt w (.slice ad1 t1.length cap1) t1.length (pOf t1) (cOf t1)) (hl2 : LogAt w (.slice ad2 t2.length cap2) t2.length (pOf t2) (cOf t2))
    (hok1 : OkLog da t1.length (pOf t1) (cOf t1)) (hok2 : OkLog db t2.length (pOf t2) (cOf t2)) (hn : t1.length + t2.length ≤ 10000) (g : Nat) (hg : g = Int.gcd (da : Int) (db : Int))
    (hfit : ∀ l, Rising l → (∀ x, atL l x = atL t1 x * ((db / g : Nat) : Int) + atL t2 x * ((da / g : Nat) : Int)) → ∃ G : Nat, gcdL ((da / g * db : Nat) : Int) (atL l) (l.map Prod.fst) l.length = G ∧ ((da / g * db : Nat) : Int) / (G : Int) ≤ 1000000 ∧ ∀ e ∈ l, (e.2.tdiv (G : Int)).natAbs ≤ 1099511627776) :
    Calls Tryz.prog 55 #[.agg #[.int .i64 da, .slice ad1 t1.length cap1], .agg #[.int .i64 db, .slice ad2 t2.length cap2]] w fun e w' => ∃ (v : Value) (l : List (Int × Int)) (G : Nat), Rising l ∧ (∀ x, atL l x = atL t1 x * ((db / g : Nat) : Int) + atL t2 x * ((da / g : Nat) : Int)) ∧ gcdL ((da / g * db : Nat) : Int) (atL l) (l.map Prod.fst) l.length = G ∧
      e = .returned (.tuple #[.agg #[.int .i64 (((da / g * db : Nat) : Int) / (G : Int)), v], .nilIface]) ∧ ListAt w' v (overL G l) ∧ l.length ≤ t1.length + t2.length ∧ Below w.heap.size w w' := by
  have hb0 : Below w.heap.size w (((w.alloc (.cells #[.int .i64 da, .slice ad1 t1.length cap1] 45)).alloc (.cells #[.int .i64 db, .slice ad2 t2.length cap2] 45)).alloc (.cells #[.int .i64 0, .slice none 0 0] 45)) := (((Below.refl _ _).alloc (Nat.le_refl _) _).alloc (by simp) _).alloc (by simp; omega) _
  have hk0 : AddKeeps w.heap.size da db (.slice ad1 t1.length cap1) (.slice ad2 t2.length cap2) t1.length t2.length t1 t2 (((w.alloc (.cells #[.int .i64 da, .slice ad1 t1.length cap1] 45)).alloc (.cells #[.int .i64 db, .slice ad2 t2.length cap2] 45)).alloc (.cells #[.int .i64 0, .slice none 0 0] 45)) :=
    ⟨by rw [World.cell?_alloc_lt _ _ ⟨w.heap.size, 0, none⟩ (by simp; omega), World.cell?_alloc_lt _ _ ⟨w.heap.size, 0, none⟩ (by simp), World.cell?_alloc_at _ _ _ _ rfl]; rfl,
     by rw [World.cell?_alloc_lt _ _ ⟨w.heap.size, 1, none⟩ (by simp; omega), World.cell?_alloc_lt _ _ ⟨w.heap.size, 1, none⟩ (by simp), World.cell?_alloc_at _ _ _ _ rfl]; rfl,
     by rw [World.cell?_alloc_lt _ _ ⟨w.heap.size + 1, 0, none⟩ (by simp), World.cell?_alloc_at _ _ _ _ (by simp)]; rfl,
     by rw [World.cell?_alloc_lt _ _ ⟨w.heap.size + 1, 1, none⟩ (by simp), World.cell?_alloc_at _ _ _ _ (by simp)]; rfl,
     by rw [World.cell?_alloc_at _ _ _ _ (by simp)]; rfl, by rw [World.cell?_alloc_at _ _ _ _ (by simp)]; rfl, frozen_new (by simp), frozen_new (by simp), hl1.later hb0, hl2.later hb0⟩
  generalize hW0 : (((w.alloc (.cells #[.int .i64 da, .slice ad1 t1.length cap1] 45)).alloc (.cells #[.int .i64 db, .slice ad2 t2.length cap2] 45)).alloc (.cells #[.int .i64 0, .slice none 0 0] 45)) = W0 at hb0 hk0
  have hv1 := Valid_log da _ t1.length (pOf t1) (cOf t1) a true ⟨fun _ => hok1, fun _ => rfl⟩ W0 (h.below hb0) hk0.l1 (by omega)
  simp only [shapeErr] at hv1
  have HE := Hid.mk' (h.below hb0)
  have HK0 := Hid.mk' hk0
  have HB0 := Hid.mk' hb0
  have HW0 := Hid.mk' hW0
  have HO1 := Hid.mk' hok1
  have HO2 := Hid.mk' hok2
  have HG := Hid.mk' hg
  have HF := Hid.mk' hfit
  have hd1 : 1 ≤ da ∧ da ≤ 1000000 := by have := hok1.1; have := hok1.2.1; omega
  have hd2 : 1 ≤ db ∧ db ≤ 1000000 := by have := hok2.1; have := hok2.2.1; omega
  clear h hl1 hl2 hok1 hok2 hb0 hk0 hW0 hg hfit
  go_enter Tryz.func55, Tryz.ntmps55
  go_wp2_with fail
  rw [HW0.out]
  refine hv1.mono ?_
  clear hv1 HW0
  rintro e w1 ⟨rfl, hb1⟩
  have HK1 := Hid.mk' (HK0.out.later hb1)
  have c1 := HK1.out.b0
  have c2 := HK1.out.b1
  have hv2 := Valid_log db _ t2.length (pOf t2) (cOf t2) a true ⟨fun _ => HO2.out, fun _ => rfl⟩ w1 (HE.out.below hb1) HK1.out.l2 (by omega)
  simp only [shapeErr] at hv2
  have HB1 := Hid.mk' (below_chain HB0.out hb1)
  clear hb1 HK0 HB0 HE
  go_wp2_with fail
  refine hv2.mono ?_
  clear hv2 c1 c2
  rintro e w2 ⟨rfl, hb2⟩
  have HK2 := Hid.mk' (HK1.out.later hb2)
  have HB2 := Hid.mk' (below_chain HB1.out hb2)
  have c0 := HK2.out.a0
  have c1 := HK2.out.b0
  clear hb2 HK1 HB1
  have hg1 : 1 ≤ g ∧ g ≤ da ∧ g ≤ db := by
    rw [HG.out]
    have h1 : Int.gcd (da : Int) (db : Int) ≤ da := Nat.gcd_le_left _ (by simp; omega)
    have h2 : Int.gcd (da : Int) (db : Int) ≤ db := Nat.gcd_le_right _ (by simp; omega)
    have h3 : 0 < Int.gcd (da : Int) (db : Int) := Nat.gcd_pos_of_pos_left _ (by simp; omega)
    exact ⟨h3, h1, h2⟩
  have hgcd := GCD_any (da : Int) (db : Int) w2 (by omega) (by omega) (by omega) (by omega)
  rw [← HG.out] at hgcd
  go_wp2_with fail
  refine hgcd.mono ?_
  clear hgcd
  rintro e w3 ⟨rfl, m3, hw3⟩
  have hb3 : Below w2.heap.size w2 w3 := by rw [hw3]; exact below_drewN (Below.refl _ _) _
  have HK3 := Hid.mk' (HK2.out.later hb3)
  have HB3 := Hid.mk' (below_chain HB2.out hb3)
  clear hw3 hb3 HK2 HB2 c0 c1
  have hcur0 : Below w3.heap.size w3 w3 := Below.refl _ _
  have hcur : Below w3.heap.size w3 w3.drew := (Below.refl _ _).drew
  have hgn : ¬ g = 0 := by omega
  have hqa := quo_i64 (b := g) hd1.2
  have hqb := quo_i64 (b := g) hd2.2
  have HQ := Hid.mk' (And.intro hqa hqb)
  have hda : da / g ≤ 1000000 := Nat.le_trans (Nat.div_le_self _ _) hd1.2
  have hdb : db / g ≤ 1000000 := Nat.le_trans (Nat.div_le_self _ _) hd2.2
  clear hqa hqb
  have e1 : (da : Int).tdiv (g : Int) = ((da / g : Nat) : Int) := by simp
  have e2 : IntKind.i64.wrap ((da : Int).tdiv (g : Int)) = ((da / g : Nat) : Int) := by rw [e1, IntKind.wrap_i64]; generalize da / g = q at hda; omega
  have e3 : IntKind.i64.wrap (((da / g : Nat) : Int) * (db : Int)) = ((da / g * db : Nat) : Int) := by
    have := Nat.mul_le_mul hda hd2.2
    rw [← Int.natCast_mul, IntKind.wrap_i64]
    generalize da / g * db = q at this
    omega
  have HKS : Hid (∀ W, Below w3.heap.size w3 W → W.cell? ⟨w.heap.size, 0, none⟩ = some (.int .i64 da) ∧ W.cell? ⟨w.heap.size + 1, 0, none⟩ = some (.int .i64 db)) := fun W hb => ⟨(HK3.out.later hb).a0, (HK3.out.later hb).b0⟩
  have eD : IntKind.i64.wrap (IntKind.i64.wrap ((da : Int) / (g : Int)) * (db : Int)) = ((da / g * db : Nat) : Int) := by
    rw [show IntKind.i64.wrap ((da : Int) / (g : Int)) = ((da / g : Nat) : Int) from HQ.out.1]; exact e3
  have hDb : da / g * db ≤ 1000000000000 := Nat.le_trans (Nat.mul_le_mul hda hd2.2) (by decide)
  have hDp : 1 ≤ da / g * db := Nat.mul_pos (Nat.div_pos hg1.2.1 hg1.1) hd2.1
  obtain ⟨D, hD⟩ : ∃ D, D = da / g * db := ⟨_, rfl⟩
  rw [← hD] at eD hDb hDp
  have HDD := Hid.mk' hD
  have HED := Hid.mk' eD
  clear e1 e2 e3 eD hD
  have hcurA : ∀ X, Below w3.heap.size w3 (w3.alloc X).drew := fun X => (below_alloc hcur0 X).drew
  go_wp2_with fail
  go_cut [9] from 27 (fun s wx => ∃ Bs mb : Nat, s = .pointer (some ⟨Bs, 0, none⟩) ∧ Hid (SumBox w3 wx Bs mb (D : Int)))
  case first =>
    go_region_held3 (fun W => W.cell? ⟨w.heap.size, 0, none⟩ = some (.int .i64 da) ∧ W.cell? ⟨w.heap.size + 1, 0, none⟩ = some (.int .i64 db))
      (first | (refine HKS.out _ ?_; assumption) | exact HKS.out _ (hcurA _) | (refine HKS.out _ (below_alloc ?_ _); assumption) | exact HKS.out _ (below_set hc4 _ _))
      (first
        | (go_at_call 63; refine (newSum_any _ _).mono ?_; rintro e w4 ⟨rfl, hown4, hb4⟩; have hc4 := below_chain hcur hb4)
        | (go_at_call 63; refine (newSum_any _ _).mono ?_; rintro e w4 ⟨rfl, hown4, hb4⟩; have hc4 := below_chain (hcurA _) hb4; obtain ⟨x0, x1, x2, x3⟩ := box_past hb4))
    · go_wp2_with fail
      go_meet
      rw [HED.out]
      exact ⟨_, _, rfl, sumBox_late hown4 hc4⟩
    · go_wp2_with fail
      go_meet
      rw [HED.out]
      exact ⟨_, _, rfl, sumBox_soon (by simpa using hown4) hc4 x0 x1⟩
  case rest =>
  obtain ⟨Bs, mb, rfl, HSB⟩ := hcut
  have hmb := HSB.out.hm
  have hBs := HSB.out.hB
  have hbsm : Bs ≠ mb := fun e => by have h1 := HSB.out.s0; rw [e, map_no_cell HSB.out.own] at h1; cases h1
  have hAK := fun (W : World) (hb : Below w3.heap.size w3 W) => HK3.out.later hb
  have HAK := Hid.mk' hAK
  have hm1 : 0 ≤ IntKind.i64.wrap ((db : Int) / (g : Int)) ∧ IntKind.i64.wrap ((db : Int) / (g : Int)) ≤ 1000000 := by rw [HQ.out.2]; generalize db / g = q at hdb; omega
  have hm2 : 0 ≤ IntKind.i64.wrap ((da : Int) / (g : Int)) ∧ IntKind.i64.wrap ((da : Int) / (g : Int)) ≤ 1000000 := by rw [HQ.out.1]; generalize da / g = q at hda; omega
  have HM2 := Hid.mk' hm2
  have HM1 := Hid.mk' hm1
  have hrise1 := HO1.out.rising
  have hrise2 := HO2.out.rising
  have HT1 : Hid (∀ e ∈ t1, 2 ≤ e.1 ∧ e.1 ≤ 1000000 ∧ -1099511627776 ≤ e.2 ∧ e.2 ≤ 1099511627776) := fun e he => by
    have h := HO1.out.mem e he
    exact ⟨h.2.2.2.2.1, h.1, h.2.2.1, h.2.2.2.1⟩
  have HT2 : Hid (∀ e ∈ t2, 2 ≤ e.1 ∧ e.1 ≤ 1000000 ∧ -1099511627776 ≤ e.2 ∧ e.2 ≤ 1099511627776) := fun e he => by
    have h := HO2.out.mem e he
    exact ⟨h.2.2.2.2.1, h.1, h.2.2.1, h.2.2.2.1⟩
  have HR1 := Hid.mk' hrise1
  have HR2 := Hid.mk' hrise2
  have hpt1 := putTerms_any (D : Int) (IntKind.i64.wrap ((db : Int) / (g : Int))) mb 0 ad1 cap1 [] t1 wc.drew (ownsMap_later HSB.out.own rfl) List.Pairwise.nil (fun e he => by cases he) (fun x => by simp [atL]) (HAK.out _ (HSB.out.below.drew)).l1 hrise1 HT1.out hm1 (by omega) (by omega)
  have HPT1 := Hid.mk' hpt1
  have hS9 : wc.cell? ⟨Bs, 0, none⟩ = some (.int .i64 (D : Int)) ∧ wc.cell? ⟨Bs, 1, none⟩ = some (.map (some mb)) ∧ wc.cell? ⟨w.heap.size, 1, none⟩ = some (.slice ad1 t1.length cap1) ∧ wc.cell? ⟨w.heap.size + 1, 0, none⟩ = some (.int .i64 db) := ⟨HSB.out.s0, HSB.out.s1, (HAK.out _ HSB.out.below).a1, (HAK.out _ HSB.out.below).b0⟩
  have HS9 := Hid.mk' hS9
  clear hpt1 hrise1 hrise2 hAK hS9 hm1 hm2 HK3 HKS
  go_wp2_with fail
  go_region_held3 (fun W => W.cell? ⟨Bs, 0, none⟩ = some (.int .i64 (D : Int)) ∧ W.cell? ⟨Bs, 1, none⟩ = some (.map (some mb)) ∧ W.cell? ⟨w.heap.size, 1, none⟩ = some (.slice ad1 t1.length cap1) ∧ W.cell? ⟨w.heap.size + 1, 0, none⟩ = some (.int .i64 db))
    (first | exact HS9.out | exact HS5.out)
    (first
      | (go_at_call 77; refine HPT1.out.mono ?_; rintro e w5 ⟨rfl, l1, hI1⟩; have HI1 := Hid.mk' hI1; have hB5 := grown_below HSB.out.below.drew hI1.grow hmb; have HS5 : Hid (w5.cell? ⟨Bs, 0, none⟩ = some (.int .i64 (D : Int)) ∧ w5.cell? ⟨Bs, 1, none⟩ = some (.map (some mb)) ∧ w5.cell? ⟨w.heap.size, 1, none⟩ = some (.slice ad1 t1.length cap1) ∧ w5.cell? ⟨w.heap.size + 1, 0, none⟩ = some (.int .i64 db)) := ⟨cell_beside hI1.grow HS9.out.1 hbsm, cell_beside hI1.grow HS9.out.2.1 hbsm, (HAK.out _ hB5).a1, (HAK.out _ hB5).b0⟩; clear hI1))
  have hB5 := grown_below HSB.out.below.drew HI1.out.grow hmb
  have hv1 : ∀ x, atL l1 x = atL t1 x * IntKind.i64.wrap ((db : Int) / (g : Int)) := fun x => by
    have := HI1.out.val x
    rw [List.take_length] at this
    simpa [atL] using this
  have hb1 : ∀ x, -1099511627776000000 ≤ atL l1 x ∧ atL l1 x ≤ 1099511627776000000 := fun x => by
    rw [hv1 x]
    exact prod_bd (atL_bound (B := 1099511627776) (by omega) (fun e he => ⟨(HT1.out e he).2.2.1, (HT1.out e he).2.2.2⟩) x) HM1.out
  have hln1 := HI1.out.len
  simp at hln1
  have hpt2 := putTerms_any (D : Int) (IntKind.i64.wrap ((da : Int) / (g : Int))) mb (0 + t1.length) ad2 cap2 l1 t2 w5.drew (ownsMap_later HI1.out.own rfl) HI1.out.rise HI1.out.keys hb1 (HAK.out _ hB5.drew).l2 HR2.out HT2.out HM2.out (by omega) (by omega)
  have HPT2 := Hid.mk' hpt2
  have HV1 := Hid.mk' hv1
  have HS7 : Hid (w5.cell? ⟨Bs, 0, none⟩ = some (.int .i64 (D : Int)) ∧ w5.cell? ⟨Bs, 1, none⟩ = some (.map (some mb)) ∧ w5.cell? ⟨w.heap.size + 1, 1, none⟩ = some (.slice ad2 t2.length cap2) ∧ w5.cell? ⟨w.heap.size, 0, none⟩ = some (.int .i64 da)) := ⟨HS5.out.1, HS5.out.2.1, (HAK.out _ hB5).b1, (HAK.out _ hB5).a0⟩
  have HB5 := Hid.mk' hB5
  clear hpt2 hv1 hb1 HS5 HS9 hB5
  go_wp2_with fail
  go_region_held3 (fun W => W.cell? ⟨Bs, 0, none⟩ = some (.int .i64 (D : Int)) ∧ W.cell? ⟨Bs, 1, none⟩ = some (.map (some mb)) ∧ W.cell? ⟨w.heap.size + 1, 1, none⟩ = some (.slice ad2 t2.length cap2) ∧ W.cell? ⟨w.heap.size, 0, none⟩ = some (.int .i64 da))
    (first | exact HS7.out | exact HS8.out)
    (first
      | (go_at_call 77; refine HPT2.out.mono ?_; rintro e w6 ⟨rfl, l2, hI2⟩; have HI2 := Hid.mk' hI2; have hB6 := grown_below HB5.out.drew hI2.grow hmb; have HS8 : Hid (w6.cell? ⟨Bs, 0, none⟩ = some (.int .i64 (D : Int)) ∧ w6.cell? ⟨Bs, 1, none⟩ = some (.map (some mb)) ∧ w6.cell? ⟨w.heap.size + 1, 1, none⟩ = some (.slice ad2 t2.length cap2) ∧ w6.cell? ⟨w.heap.size, 0, none⟩ = some (.int .i64 da)) := ⟨cell_beside hI2.grow HS7.out.1 hbsm, cell_beside hI2.grow HS7.out.2.1 hbsm, (HAK.out _ hB6).b1, (HAK.out _ hB6).a0⟩; clear hI2))
  have hB6 := grown_below HB5.out.drew HI2.out.grow hmb
  have hv2 : ∀ x, atL l2 x = atL t1 x * ((db / g : Nat) : Int) + atL t2 x * ((da / g : Nat) : Int) := fun x => by
    have h1 := HI2.out.val x
    rw [List.take_length, HV1.out x, HQ.out.1, HQ.out.2] at h1
    exact h1
  obtain ⟨G, hG, hGd, hGq⟩ := HF.out l2 HI2.out.rise hv2
  have hln2 := HI2.out.len
  have hbd2 : ∀ x, -2305843009213693952 ≤ atL l2 x ∧ atL l2 x ≤ 2305843009213693952 := fun x => by
    have h1 := prod_bd (atL_bound (B := 1099511627776) (by omega) (fun e he => ⟨(HT1.out e he).2.2.1, (HT1.out e he).2.2.2⟩) x) HM1.out
    have h2 := prod_bd (atL_bound (B := 1099511627776) (by omega) (fun e he => ⟨(HT2.out e he).2.2.1, (HT2.out e he).2.2.2⟩) x) HM2.out
    rw [hv2 x, ← HQ.out.1, ← HQ.out.2]
    omega
  rw [← HDD.out] at hG hGd
  have ht := told_list (D : Int) mb _ l2 w6 HI2.out.own HI2.out.rise HI2.out.keys (by omega) hbd2 (by omega) (by omega) G hG hGd hGq
  have HRES := Hid.mk' (And.intro HI2.out.rise (And.intro hv2 (And.intro hG hln2)))
  have x0 := HS8.out.1
  have x1 := HS8.out.2.1
  have HB6 := Hid.mk' hB6
  clear hv2 hG hGd hGq hbd2 hB6 HS7 HS8
  go_wp2_with fail
  refine ht.mono ?_
  clear ht x0 x1
  rintro e w7 ⟨v, rfl, hrow, hb7⟩
  have hB7 := below_chain HB6.out hb7
  have HA7 := Hid.mk' (HAK.out _ hB7)
  have c0 := HA7.out.r0
  have c1 := HA7.out.r1
  have d0 := HA7.out.f0
  have d1 := HA7.out.f1
  have HR := Hid.mk' hrow
  have HB8 := Hid.mk' (below_chain HB3.out hB7)
  have z3 := cell_lt (HAK.out w3 (Below.refl _ _)).r0
  simp only at z3
  have z6 := HB6.out.size
  obtain ⟨ad, n', c', rfl⟩ : ∃ ad n' c', v = .slice ad n' c' := by
    rcases hrow.2 with ⟨rfl, _⟩ | ⟨gg, cap', cur', rfl, _⟩
    · exact ⟨_, _, _, rfl⟩
    · exact ⟨_, _, _, rfl⟩
  clear hrow hb7 hB7
  go_wp2_with fail
  refine bodyPost_ret (v := .tuple #[.agg #[.int .i64 ((D : Int) / (G : Int)), .slice ad n' c'], .nilIface]) (by simp [results, Tryz.results55, go_sem, c0, c1]) rfl ⟨.slice ad n' c', l2, G, HRES.out.1, HRES.out.2.1, by rw [← HDD.out]; exact HRES.out.2.2.1, by rw [← HDD.out], ?_, ?_, ?_⟩
  · have h1 := ownsRow_setCell_below HR.out (a := ⟨w.heap.size + 1 + 1, 0, none⟩) (by show w.heap.size + 1 + 1 < _; omega) (.int .i64 ((D : Int) / (G : Int)))
    have h2 := ownsRow_setCell_below h1 (a := ⟨w.heap.size + 1 + 1, 1, none⟩) (by show w.heap.size + 1 + 1 < _; omega) (.slice ad n' c')
    exact ownAt_of_row h2
  · have := HRES.out.2.2.2
    omega
  · exact (HB8.out.setCell (by simp; omega) _).setCell (by simp; omega) _
end Go.Proofs.YtofflboheiflaaaGreatDoor
