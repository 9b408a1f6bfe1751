/- logs.Add in general: ErrShape, ErrBound, or the sum in form. -/
import Derived.Test.YtofflboheiflaaaGreatDoorAddOk
import Derived.Test.YtofflboheiflaaaGreatDoorToldAny
namespace Go.Proofs.YtofflboheiflaaaGreatDoor
open Go.RowKit Go.Maps

theorem some_bool (P : Prop) : ∃ b : Bool, b = true ↔ P := by
  by_cases h : P
  · exact ⟨true, ⟨fun _ => h, fun _ => rfl⟩⟩
  · exact ⟨false, ⟨(fun e => by cases e), (fun e => absurd e h)⟩⟩
/-- Has a sum a form? -/
def Fits (den : Int) (G : Nat) (l : List (Int × Int)) : Prop := den / (G : Int) ≤ 1000000 ∧ ∀ e ∈ l, (e.2.tdiv (G : Int)).natAbs ≤ 1099511627776
/-- told by lists, in general. -/
theorem told_list_any (den : Int) (b nn : Nat) (l : List (Int × Int)) (w : World) (hown : w.ownsMap Tryz.prog 3 (plainElem (H := Unit) Tryz.prog 3) b nn (mapOf l)) (hr : Rising l) (hk : ∀ e ∈ l, 2 ≤ e.1 ∧ e.1 ≤ 1000000) (hlen : l.length ≤ 100000)
    (hb : ∀ x, -2305843009213693952 ≤ atL l x ∧ atL l x ≤ 2305843009213693952) (hd1 : 1 ≤ den) (hd2 : den ≤ 1000000000000) (G : Nat) (hG : gcdL den (atL l) (l.map Prod.fst) l.length = G) (a : Nat → Addr) (hE : Errs w a) (fit : Bool) (hfit : fit = true ↔ Fits den G l) :
    Calls Tryz.prog 65 #[.agg #[.int .i64 den, .map (some b)]] w fun e w' => ((fit = true ∧ ∃ v, e = .returned (.tuple #[.agg #[.int .i64 (den / (G : Int)), v], .nilIface]) ∧ w'.ownsRow w.heap.size 64 2 v (overL G l).length (termCells (pOf (overL G l)) (cOf (overL G l)) (overL G l).length)) ∨ (fit = false ∧ e = .returned (.tuple #[.agg #[.int .i64 0, .slice none 0 0], .iface 179 (.pointer (some (a 1)))]))) ∧ Below w.heap.size w w' := by
  have hcf : ∀ e ∈ l, atL l e.1 = e.2 := fun e he => atL_mem hr he
  have ht := terms_flat (atL l) G l hcf
  have hfit' : fit = true ↔ (den / (G : Int) ≤ 1000000 ∧ ∀ x ∈ l.map Prod.fst, (quo (atL l) G x).natAbs ≤ 1099511627776) := hfit.trans ⟨fun h => ⟨h.1, fun x hx => by obtain ⟨e, he, rfl⟩ := List.mem_map.1 hx; unfold quo; rw [hcf e he]; exact h.2 e he⟩, fun h => ⟨h.1, fun e he => by have := h.2 e.1 (List.mem_map.2 ⟨e, he, rfl⟩); unfold quo at this; rw [hcf e he] at this; exact this⟩⟩
  have := told_any den b nn (mapOf l) (atL l) (l.map Prod.fst) w hown (at_map l) (sort_keys hr) (by rw [size_map]; exact hlen) (by rw [List.length_map]; exact hlen)
    (fun x hx => by obtain ⟨e, he, rfl⟩ := List.mem_map.1 hx; have := hk e he; exact wf_int (by omega)) hd1 hd2 hb G (by rw [List.length_map]; exact hG) a hE fit hfit'
  rw [ht.1, ht.2, flat_cells] at this
  exact this

/-- Two boxes and a result. -/
theorem three_cells (w : World) (x0 x1 y0 y1 r0 r1 : Value) (t : TypeId) :
    ((((w.alloc (.cells #[x0, x1] t)).alloc (.cells #[y0, y1] t)).alloc (.cells #[r0, r1] t)).cell? ⟨w.heap.size, 0, none⟩ = some x0 ∧ (((w.alloc (.cells #[x0, x1] t)).alloc (.cells #[y0, y1] t)).alloc (.cells #[r0, r1] t)).cell? ⟨w.heap.size, 1, none⟩ = some x1) ∧ ((((w.alloc (.cells #[x0, x1] t)).alloc (.cells #[y0, y1] t)).alloc (.cells #[r0, r1] t)).cell? ⟨w.heap.size + 1, 0, none⟩ = some y0 ∧ (((w.alloc (.cells #[x0, x1] t)).alloc (.cells #[y0, y1] t)).alloc (.cells #[r0, r1] t)).cell? ⟨w.heap.size + 1, 1, none⟩ = some y1) ∧ ((((w.alloc (.cells #[x0, x1] t)).alloc (.cells #[y0, y1] t)).alloc (.cells #[r0, r1] t)).cell? ⟨w.heap.size + 1 + 1, 0, none⟩ = some r0 ∧ (((w.alloc (.cells #[x0, x1] t)).alloc (.cells #[y0, y1] t)).alloc (.cells #[r0, r1] t)).cell? ⟨w.heap.size + 1 + 1, 1, none⟩ = some r1) ∧ (((w.alloc (.cells #[x0, x1] t)).alloc (.cells #[y0, y1] t)).alloc (.cells #[r0, r1] t)).frozen? ⟨w.heap.size + 1 + 1, 0, none⟩ = false ∧ (((w.alloc (.cells #[x0, x1] t)).alloc (.cells #[y0, y1] t)).alloc (.cells #[r0, r1] t)).frozen? ⟨w.heap.size + 1 + 1, 1, none⟩ = false := by
  refine ⟨⟨?_, ?_⟩, ⟨?_, ?_⟩, ⟨?_, ?_⟩, frozen_new (by simp), frozen_new (by simp)⟩
  · rw [World.cell?_alloc_lt _ _ ⟨w.heap.size, 0, none⟩ (by simp; omega), World.cell?_alloc_lt _ _ ⟨w.heap.size, 0, none⟩ (by simp), World.cell?_alloc_at _ _ _ _ rfl]; rfl
  · rw [World.cell?_alloc_lt _ _ ⟨w.heap.size, 1, none⟩ (by simp; omega), World.cell?_alloc_lt _ _ ⟨w.heap.size, 1, none⟩ (by simp), World.cell?_alloc_at _ _ _ _ rfl]; rfl
  · rw [World.cell?_alloc_lt _ _ ⟨w.heap.size + 1, 0, none⟩ (by simp), World.cell?_alloc_at _ _ _ _ (by simp)]; rfl
  · rw [World.cell?_alloc_lt _ _ ⟨w.heap.size + 1, 1, none⟩ (by simp), World.cell?_alloc_at _ _ _ _ (by simp)]; rfl
  · rw [World.cell?_alloc_at _ _ _ _ (by simp)]; rfl
  · rw [World.cell?_alloc_at _ _ _ _ (by simp)]; rfl

set_option maxRecDepth 100000 in
set_option maxHeartbeats 2000000 in
theorem Add_any (da db : Nat) (ad1 ad2 : Option Addr) (cap1 cap2 : Nat) (t1 t2 : List (Int × Int)) (a : Nat → Addr) (w : World) (h : Errs w a) (hl1 : LogAt w (.slice ad1 t1.length cap1) t1.length (pOf t1) (cOf t1)) (hl2 : LogAt w (.slice ad2 t2.length cap2) t2.length (pOf t2) (cOf t2))
    (hok1 : OkLog da t1.length (pOf t1) (cOf t1)) (hok2 : OkLog db t2.length (pOf t2) (cOf t2)) (hn : t1.length + t2.length ≤ 10000) (g : Nat) (hg : g = Int.gcd (da : Int) (db : Int)) :
    Calls Tryz.prog 55 #[.agg #[.int .i64 da, .slice ad1 t1.length cap1], .agg #[.int .i64 db, .slice ad2 t2.length cap2]] w fun e w' => (∃ (l : List (Int × Int)) (G : Nat), Rising l ∧ (∀ x, atL l x = atL t1 x * ((db / g : Nat) : Int) + atL t2 x * ((da / g : Nat) : Int)) ∧ gcdL ((da / g * db : Nat) : Int) (atL l) (l.map Prod.fst) l.length = G ∧ l.length ≤ t1.length + t2.length ∧
      ((Fits ((da / g * db : Nat) : Int) G l ∧ ∃ v, e = .returned (.tuple #[.agg #[.int .i64 (((da / g * db : Nat) : Int) / (G : Int)), v], .nilIface]) ∧ ListAt w' v (overL G l)) ∨ (¬ Fits ((da / g * db : Nat) : Int) G l ∧ e = .returned (.tuple #[.agg #[.int .i64 0, .slice none 0 0], .iface 179 (.pointer (some (a 1)))])))) ∧ Below w.heap.size w w' := by
  have hb0 : Below w.heap.size w (((w.alloc (.cells #[.int .i64 da, .slice ad1 t1.length cap1] 45)).alloc (.cells #[.int .i64 db, .slice ad2 t2.length cap2] 45)).alloc (.cells #[.int .i64 0, .slice none 0 0] 45)) := (((Below.refl _ _).alloc (Nat.le_refl _) _).alloc (by simp) _).alloc (by simp; omega) _
  have hk0 : AddKeeps w.heap.size da db (.slice ad1 t1.length cap1) (.slice ad2 t2.length cap2) t1.length t2.length t1 t2 (((w.alloc (.cells #[.int .i64 da, .slice ad1 t1.length cap1] 45)).alloc (.cells #[.int .i64 db, .slice ad2 t2.length cap2] 45)).alloc (.cells #[.int .i64 0, .slice none 0 0] 45)) :=
    ⟨by rw [World.cell?_alloc_lt _ _ ⟨w.heap.size, 0, none⟩ (by simp; omega), World.cell?_alloc_lt _ _ ⟨w.heap.size, 0, none⟩ (by simp), World.cell?_alloc_at _ _ _ _ rfl]; rfl,
     by rw [World.cell?_alloc_lt _ _ ⟨w.heap.size, 1, none⟩ (by simp; omega), World.cell?_alloc_lt _ _ ⟨w.heap.size, 1, none⟩ (by simp), World.cell?_alloc_at _ _ _ _ rfl]; rfl,
     by rw [World.cell?_alloc_lt _ _ ⟨w.heap.size + 1, 0, none⟩ (by simp), World.cell?_alloc_at _ _ _ _ (by simp)]; rfl,
     by rw [World.cell?_alloc_lt _ _ ⟨w.heap.size + 1, 1, none⟩ (by simp), World.cell?_alloc_at _ _ _ _ (by simp)]; rfl,
     by rw [World.cell?_alloc_at _ _ _ _ (by simp)]; rfl, by rw [World.cell?_alloc_at _ _ _ _ (by simp)]; rfl, frozen_new (by simp), frozen_new (by simp), hl1.later hb0, hl2.later hb0⟩
  generalize hW0 : (((w.alloc (.cells #[.int .i64 da, .slice ad1 t1.length cap1] 45)).alloc (.cells #[.int .i64 db, .slice ad2 t2.length cap2] 45)).alloc (.cells #[.int .i64 0, .slice none 0 0] 45)) = W0 at hb0 hk0
  have hv1 := Valid_log da _ t1.length (pOf t1) (cOf t1) a true ⟨fun _ => hok1, fun _ => rfl⟩ W0 (h.below hb0) hk0.l1 (by omega)
  simp only [shapeErr] at hv1
  have HE := Hid.mk' (h.below hb0)
  have HERR := Hid.mk' h
  have HK0 := Hid.mk' hk0
  have HB0 := Hid.mk' hb0
  have HW0 := Hid.mk' hW0
  have HO1 := Hid.mk' hok1
  have HO2 := Hid.mk' hok2
  have HG := Hid.mk' hg
  have hd1 : 1 ≤ da ∧ da ≤ 1000000 := by have := hok1.1; have := hok1.2.1; omega
  have hd2 : 1 ≤ db ∧ db ≤ 1000000 := by have := hok2.1; have := hok2.2.1; omega
  clear h hl1 hl2 hok1 hok2 hb0 hk0 hW0 hg
  go_enter Tryz.func55, Tryz.ntmps55
  go_wp2_with fail
  rw [HW0.out]
  refine hv1.mono ?_
  clear hv1 HW0
  rintro e w1 ⟨rfl, hb1⟩
  have HK1 := Hid.mk' (HK0.out.later hb1)
  have c1 := HK1.out.b0
  have c2 := HK1.out.b1
  have hv2 := Valid_log db _ t2.length (pOf t2) (cOf t2) a true ⟨fun _ => HO2.out, fun _ => rfl⟩ w1 (HE.out.below hb1) HK1.out.l2 (by omega)
  simp only [shapeErr] at hv2
  have HB1 := Hid.mk' (below_chain HB0.out hb1)
  clear hb1 HK0 HB0 HE
  go_wp2_with fail
  refine hv2.mono ?_
  clear hv2 c1 c2
  rintro e w2 ⟨rfl, hb2⟩
  have HK2 := Hid.mk' (HK1.out.later hb2)
  have HB2 := Hid.mk' (below_chain HB1.out hb2)
  have c0 := HK2.out.a0
  have c1 := HK2.out.b0
  clear hb2 HK1 HB1
  have hg1 : 1 ≤ g ∧ g ≤ da ∧ g ≤ db := by
    rw [HG.out]
    have h1 : Int.gcd (da : Int) (db : Int) ≤ da := Nat.gcd_le_left _ (by simp; omega)
    have h2 : Int.gcd (da : Int) (db : Int) ≤ db := Nat.gcd_le_right _ (by simp; omega)
    have h3 : 0 < Int.gcd (da : Int) (db : Int) := Nat.gcd_pos_of_pos_left _ (by simp; omega)
    exact ⟨h3, h1, h2⟩
  have hgcd := GCD_any (da : Int) (db : Int) w2 (by omega) (by omega) (by omega) (by omega)
  rw [← HG.out] at hgcd
  go_wp2_with fail
  refine hgcd.mono ?_
  clear hgcd
  rintro e w3 ⟨rfl, m3, hw3⟩
  have hb3 : Below w2.heap.size w2 w3 := by rw [hw3]; exact below_drewN (Below.refl _ _) _
  have HK3 := Hid.mk' (HK2.out.later hb3)
  have HB3 := Hid.mk' (below_chain HB2.out hb3)
  clear hw3 hb3 HK2 HB2 c0 c1
  have hcur0 : Below w3.heap.size w3 w3 := Below.refl _ _
  have hcur : Below w3.heap.size w3 w3.drew := (Below.refl _ _).drew
  have hgn : ¬ g = 0 := by omega
  have hqa := quo_i64 (b := g) hd1.2
  have hqb := quo_i64 (b := g) hd2.2
  have HQ := Hid.mk' (And.intro hqa hqb)
  have hda : da / g ≤ 1000000 := Nat.le_trans (Nat.div_le_self _ _) hd1.2
  have hdb : db / g ≤ 1000000 := Nat.le_trans (Nat.div_le_self _ _) hd2.2
  clear hqa hqb
  have e1 : (da : Int).tdiv (g : Int) = ((da / g : Nat) : Int) := by simp
  have e2 : IntKind.i64.wrap ((da : Int).tdiv (g : Int)) = ((da / g : Nat) : Int) := by rw [e1, IntKind.wrap_i64]; generalize da / g = q at hda; omega
  have e3 : IntKind.i64.wrap (((da / g : Nat) : Int) * (db : Int)) = ((da / g * db : Nat) : Int) := by
    have := Nat.mul_le_mul hda hd2.2
    rw [← Int.natCast_mul, IntKind.wrap_i64]
    generalize da / g * db = q at this
    omega
  have HKS : Hid (∀ W, Below w3.heap.size w3 W → W.cell? ⟨w.heap.size, 0, none⟩ = some (.int .i64 da) ∧ W.cell? ⟨w.heap.size + 1, 0, none⟩ = some (.int .i64 db)) := fun W hb => ⟨(HK3.out.later hb).a0, (HK3.out.later hb).b0⟩
  have eD : IntKind.i64.wrap (IntKind.i64.wrap ((da : Int) / (g : Int)) * (db : Int)) = ((da / g * db : Nat) : Int) := by
    rw [show IntKind.i64.wrap ((da : Int) / (g : Int)) = ((da / g : Nat) : Int) from HQ.out.1]; exact e3
  have hDb : da / g * db ≤ 1000000000000 := Nat.le_trans (Nat.mul_le_mul hda hd2.2) (by decide)
  have hDp : 1 ≤ da / g * db := Nat.mul_pos (Nat.div_pos hg1.2.1 hg1.1) hd2.1
  obtain ⟨D, hD⟩ : ∃ D, D = da / g * db := ⟨_, rfl⟩
  rw [← hD] at eD hDb hDp
  have HDD := Hid.mk' hD
  have HED := Hid.mk' eD
  clear e1 e2 e3 eD hD
  have hcurA : ∀ X, Below w3.heap.size w3 (w3.alloc X).drew := fun X => (below_alloc hcur0 X).drew
  go_wp2_with fail
  go_cut [9] from 27 (fun s wx => ∃ Bs mb : Nat, s = .pointer (some ⟨Bs, 0, none⟩) ∧ Hid (SumBox w3 wx Bs mb (D : Int)))
  case first =>
    go_region_held3 (fun W => W.cell? ⟨w.heap.size, 0, none⟩ = some (.int .i64 da) ∧ W.cell? ⟨w.heap.size + 1, 0, none⟩ = some (.int .i64 db))
      (first | (refine HKS.out _ ?_; assumption) | exact HKS.out _ (hcurA _) | (refine HKS.out _ (below_alloc ?_ _); assumption) | exact HKS.out _ (below_set hc4 _ _))
      (first
        | (go_at_call 63; refine (newSum_any _ _).mono ?_; rintro e w4 ⟨rfl, hown4, hb4⟩; have hc4 := below_chain hcur hb4)
        | (go_at_call 63; refine (newSum_any _ _).mono ?_; rintro e w4 ⟨rfl, hown4, hb4⟩; have hc4 := below_chain (hcurA _) hb4; obtain ⟨x0, x1, x2, x3⟩ := box_past hb4))
    · go_wp2_with fail
      go_meet
      rw [HED.out]
      exact ⟨_, _, rfl, sumBox_late hown4 hc4⟩
    · go_wp2_with fail
      go_meet
      rw [HED.out]
      exact ⟨_, _, rfl, sumBox_soon (by simpa using hown4) hc4 x0 x1⟩
  case rest =>
  obtain ⟨Bs, mb, rfl, HSB⟩ := hcut
  have hmb := HSB.out.hm
  have hBs := HSB.out.hB
  have hbsm : Bs ≠ mb := fun e => by have h1 := HSB.out.s0; rw [e, map_no_cell HSB.out.own] at h1; cases h1
  have hAK := fun (W : World) (hb : Below w3.heap.size w3 W) => HK3.out.later hb
  have HAK := Hid.mk' hAK
  have hm1 : 0 ≤ IntKind.i64.wrap ((db : Int) / (g : Int)) ∧ IntKind.i64.wrap ((db : Int) / (g : Int)) ≤ 1000000 := by rw [HQ.out.2]; generalize db / g = q at hdb; omega
  have hm2 : 0 ≤ IntKind.i64.wrap ((da : Int) / (g : Int)) ∧ IntKind.i64.wrap ((da : Int) / (g : Int)) ≤ 1000000 := by rw [HQ.out.1]; generalize da / g = q at hda; omega
  have HM2 := Hid.mk' hm2
  have HM1 := Hid.mk' hm1
  have hrise1 := HO1.out.rising
  have hrise2 := HO2.out.rising
  have HT1 : Hid (∀ e ∈ t1, 2 ≤ e.1 ∧ e.1 ≤ 1000000 ∧ -1099511627776 ≤ e.2 ∧ e.2 ≤ 1099511627776) := fun e he => by
    have h := HO1.out.mem e he
    exact ⟨h.2.2.2.2.1, h.1, h.2.2.1, h.2.2.2.1⟩
  have HT2 : Hid (∀ e ∈ t2, 2 ≤ e.1 ∧ e.1 ≤ 1000000 ∧ -1099511627776 ≤ e.2 ∧ e.2 ≤ 1099511627776) := fun e he => by
    have h := HO2.out.mem e he
    exact ⟨h.2.2.2.2.1, h.1, h.2.2.1, h.2.2.2.1⟩
  have HR1 := Hid.mk' hrise1
  have HR2 := Hid.mk' hrise2
  have hpt1 := putTerms_any (D : Int) (IntKind.i64.wrap ((db : Int) / (g : Int))) mb 0 ad1 cap1 [] t1 wc.drew (ownsMap_later HSB.out.own rfl) List.Pairwise.nil (fun e he => by cases he) (fun x => by simp [atL]) (HAK.out _ (HSB.out.below.drew)).l1 hrise1 HT1.out hm1 (by omega) (by omega)
  have HPT1 := Hid.mk' hpt1
  have hS9 : wc.cell? ⟨Bs, 0, none⟩ = some (.int .i64 (D : Int)) ∧ wc.cell? ⟨Bs, 1, none⟩ = some (.map (some mb)) ∧ wc.cell? ⟨w.heap.size, 1, none⟩ = some (.slice ad1 t1.length cap1) ∧ wc.cell? ⟨w.heap.size + 1, 0, none⟩ = some (.int .i64 db) := ⟨HSB.out.s0, HSB.out.s1, (HAK.out _ HSB.out.below).a1, (HAK.out _ HSB.out.below).b0⟩
  have HS9 := Hid.mk' hS9
  clear hpt1 hrise1 hrise2 hAK hS9 hm1 hm2 HK3 HKS
  go_wp2_with fail
  go_region_held3 (fun W => W.cell? ⟨Bs, 0, none⟩ = some (.int .i64 (D : Int)) ∧ W.cell? ⟨Bs, 1, none⟩ = some (.map (some mb)) ∧ W.cell? ⟨w.heap.size, 1, none⟩ = some (.slice ad1 t1.length cap1) ∧ W.cell? ⟨w.heap.size + 1, 0, none⟩ = some (.int .i64 db))
    (first | exact HS9.out | exact HS5.out)
    (first
      | (go_at_call 77; refine HPT1.out.mono ?_; rintro e w5 ⟨rfl, l1, hI1⟩; have HI1 := Hid.mk' hI1; have hB5 := grown_below HSB.out.below.drew hI1.grow hmb; have HS5 : Hid (w5.cell? ⟨Bs, 0, none⟩ = some (.int .i64 (D : Int)) ∧ w5.cell? ⟨Bs, 1, none⟩ = some (.map (some mb)) ∧ w5.cell? ⟨w.heap.size, 1, none⟩ = some (.slice ad1 t1.length cap1) ∧ w5.cell? ⟨w.heap.size + 1, 0, none⟩ = some (.int .i64 db)) := ⟨cell_beside hI1.grow HS9.out.1 hbsm, cell_beside hI1.grow HS9.out.2.1 hbsm, (HAK.out _ hB5).a1, (HAK.out _ hB5).b0⟩; clear hI1))
  have hB5 := grown_below HSB.out.below.drew HI1.out.grow hmb
  have hv1 : ∀ x, atL l1 x = atL t1 x * IntKind.i64.wrap ((db : Int) / (g : Int)) := fun x => by
    have := HI1.out.val x
    rw [List.take_length] at this
    simpa [atL] using this
  have hb1 : ∀ x, -1099511627776000000 ≤ atL l1 x ∧ atL l1 x ≤ 1099511627776000000 := fun x => by
    rw [hv1 x]
    exact prod_bd (atL_bound (B := 1099511627776) (by omega) (fun e he => ⟨(HT1.out e he).2.2.1, (HT1.out e he).2.2.2⟩) x) HM1.out
  have hln1 := HI1.out.len
  simp at hln1
  have hpt2 := putTerms_any (D : Int) (IntKind.i64.wrap ((da : Int) / (g : Int))) mb (0 + t1.length) ad2 cap2 l1 t2 w5.drew (ownsMap_later HI1.out.own rfl) HI1.out.rise HI1.out.keys hb1 (HAK.out _ hB5.drew).l2 HR2.out HT2.out HM2.out (by omega) (by omega)
  have HPT2 := Hid.mk' hpt2
  have HV1 := Hid.mk' hv1
  have HS7 : Hid (w5.cell? ⟨Bs, 0, none⟩ = some (.int .i64 (D : Int)) ∧ w5.cell? ⟨Bs, 1, none⟩ = some (.map (some mb)) ∧ w5.cell? ⟨w.heap.size + 1, 1, none⟩ = some (.slice ad2 t2.length cap2) ∧ w5.cell? ⟨w.heap.size, 0, none⟩ = some (.int .i64 da)) := ⟨HS5.out.1, HS5.out.2.1, (HAK.out _ hB5).b1, (HAK.out _ hB5).a0⟩
  have HB5 := Hid.mk' hB5
  clear hpt2 hv1 hb1 HS5 HS9 hB5
  go_wp2_with fail
  go_region_held3 (fun W => W.cell? ⟨Bs, 0, none⟩ = some (.int .i64 (D : Int)) ∧ W.cell? ⟨Bs, 1, none⟩ = some (.map (some mb)) ∧ W.cell? ⟨w.heap.size + 1, 1, none⟩ = some (.slice ad2 t2.length cap2) ∧ W.cell? ⟨w.heap.size, 0, none⟩ = some (.int .i64 da))
    (first | exact HS7.out | exact HS8.out)
    (first
      | (go_at_call 77; refine HPT2.out.mono ?_; rintro e w6 ⟨rfl, l2, hI2⟩; have HI2 := Hid.mk' hI2; have hB6 := grown_below HB5.out.drew hI2.grow hmb; have HS8 : Hid (w6.cell? ⟨Bs, 0, none⟩ = some (.int .i64 (D : Int)) ∧ w6.cell? ⟨Bs, 1, none⟩ = some (.map (some mb)) ∧ w6.cell? ⟨w.heap.size + 1, 1, none⟩ = some (.slice ad2 t2.length cap2) ∧ w6.cell? ⟨w.heap.size, 0, none⟩ = some (.int .i64 da)) := ⟨cell_beside hI2.grow HS7.out.1 hbsm, cell_beside hI2.grow HS7.out.2.1 hbsm, (HAK.out _ hB6).b1, (HAK.out _ hB6).a0⟩; clear hI2))
  have hB6 := grown_below HB5.out.drew HI2.out.grow hmb
  have hv2 : ∀ x, atL l2 x = atL t1 x * ((db / g : Nat) : Int) + atL t2 x * ((da / g : Nat) : Int) := fun x => by
    have h1 := HI2.out.val x
    rw [List.take_length, HV1.out x, HQ.out.1, HQ.out.2] at h1
    exact h1
  obtain ⟨G, hG⟩ : ∃ G, gcdL ((da / g * db : Nat) : Int) (atL l2) (l2.map Prod.fst) l2.length = G := ⟨_, rfl⟩
  have hln2 := HI2.out.len
  have hbd2 : ∀ x, -2305843009213693952 ≤ atL l2 x ∧ atL l2 x ≤ 2305843009213693952 := fun x => by
    have h1 := prod_bd (atL_bound (B := 1099511627776) (by omega) (fun e he => ⟨(HT1.out e he).2.2.1, (HT1.out e he).2.2.2⟩) x) HM1.out
    have h2 := prod_bd (atL_bound (B := 1099511627776) (by omega) (fun e he => ⟨(HT2.out e he).2.2.1, (HT2.out e he).2.2.2⟩) x) HM2.out
    rw [hv2 x, ← HQ.out.1, ← HQ.out.2]
    omega
  rw [← HDD.out] at hG
  obtain ⟨fit, hfit⟩ := some_bool (Fits (D : Int) G l2)
  have ht := told_list_any (D : Int) mb _ l2 w6 HI2.out.own HI2.out.rise HI2.out.keys (by omega) hbd2 (by omega) (by omega) G hG a (HERR.out.below (below_chain HB3.out hB6)) fit hfit
  have HRES := Hid.mk' (And.intro HI2.out.rise (And.intro hv2 (And.intro hG hln2)))
  have x0 := HS8.out.1
  have x1 := HS8.out.2.1
  have HB6 := Hid.mk' hB6
  have HFI := Hid.mk' hfit
  clear hv2 hG hfit hbd2 hB6 HS7 HS8
  go_wp2_with fail
  refine ht.mono ?_
  clear ht x0 x1
  rintro e w7 ⟨hres, hb7⟩
  have hB7 := below_chain HB6.out hb7
  have HA7 := Hid.mk' (HAK.out _ hB7)
  have c0 := HA7.out.r0
  have c1 := HA7.out.r1
  have d0 := HA7.out.f0
  have d1 := HA7.out.f1
  have HB8 := Hid.mk' (below_chain HB3.out hB7)
  have z3 := cell_lt (HAK.out w3 (Below.refl _ _)).r0
  simp only at z3
  have z6 := HB6.out.size
  clear hb7 hB7
  rcases hres with ⟨hft, v, rfl, hrow⟩ | ⟨hff, rfl⟩
  · have HR := Hid.mk' hrow
    obtain ⟨ad, n', c', rfl⟩ : ∃ ad n' c', v = .slice ad n' c' := by
      rcases hrow.2 with ⟨rfl, _⟩ | ⟨gg, cap', cur', rfl, _⟩
      · exact ⟨_, _, _, rfl⟩
      · exact ⟨_, _, _, rfl⟩
    clear hrow
    go_wp2_with fail
    refine bodyPost_ret (v := .tuple #[.agg #[.int .i64 ((D : Int) / (G : Int)), .slice ad n' c'], .nilIface]) (by simp [results, Tryz.results55, go_sem, c0, c1]) rfl ⟨⟨l2, G, HRES.out.1, HRES.out.2.1, by rw [← HDD.out]; exact HRES.out.2.2.1, by have := HRES.out.2.2.2; omega, Or.inl ⟨by rw [← HDD.out]; exact HFI.out.1 hft, .slice ad n' c', by rw [← HDD.out], ?_⟩⟩, ?_⟩
    · have h1 := ownsRow_setCell_below HR.out (a := ⟨w.heap.size + 1 + 1, 0, none⟩) (by show w.heap.size + 1 + 1 < _; omega) (.int .i64 ((D : Int) / (G : Int)))
      have h2 := ownsRow_setCell_below h1 (a := ⟨w.heap.size + 1 + 1, 1, none⟩) (by show w.heap.size + 1 + 1 < _; omega) (.slice ad n' c')
      exact ownAt_of_row h2
    · exact (HB8.out.setCell (by simp; omega) _).setCell (by simp; omega) _
  · go_wp2_with fail
    refine bodyPost_ret (v := .tuple #[.agg #[.int .i64 0, .slice none 0 0], .iface 179 (.pointer (some (a 1)))]) (by simp [results, Tryz.results55, go_sem, c0, c1]) rfl ⟨⟨l2, G, HRES.out.1, HRES.out.2.1, by rw [← HDD.out]; exact HRES.out.2.2.1, by have := HRES.out.2.2.2; omega, Or.inr ⟨by rw [← HDD.out]; exact (fun h => Bool.noConfusion ((HFI.out.2 h).symm.trans hff)), rfl⟩⟩, ?_⟩
    exact (HB8.out.setCell (by simp; omega) _).setCell (by simp; omega) _

set_option maxRecDepth 100000 in
set_option maxHeartbeats 2000000 in
/-- Add where one of the two is not in form. -/
theorem Add_shape (da db : Int) (v1 v2 : Value) (n1 n2 : Nat) (p1 c1 p2 c2 : Nat → Int) (a : Nat → Addr) (w : World) (h : Errs w a) (hl1 : LogAt w v1 n1 p1 c1) (hl2 : LogAt w v2 n2 p2 c2) (hn1 : n1 ≤ 1000000) (hn2 : n2 ≤ 1000000) (hbad : ¬ (OkLog da n1 p1 c1 ∧ OkLog db n2 p2 c2)) :
    Calls Tryz.prog 55 #[.agg #[.int .i64 da, v1], .agg #[.int .i64 db, v2]] w fun e w' => e = .returned (.tuple #[.agg #[.int .i64 0, .slice none 0 0], .iface 179 (.pointer (some (a 2)))]) ∧ Below w.heap.size w w' := by
  obtain ⟨ad1, m1, cap1, rfl⟩ : ∃ ad m cap, v1 = .slice ad m cap := by rcases hl1 with ⟨ad, cap, rfl, _⟩ | ⟨b, o, cap, rfl, _⟩ <;> exact ⟨_, _, _, rfl⟩
  obtain ⟨ad2, m2, cap2, rfl⟩ : ∃ ad m cap, v2 = .slice ad m cap := by rcases hl2 with ⟨ad, cap, rfl, _⟩ | ⟨b, o, cap, rfl, _⟩ <;> exact ⟨_, _, _, rfl⟩
  have hb0 : Below w.heap.size w (((w.alloc (.cells #[.int .i64 da, .slice ad1 m1 cap1] 45)).alloc (.cells #[.int .i64 db, .slice ad2 m2 cap2] 45)).alloc (.cells #[.int .i64 0, .slice none 0 0] 45)) := (((Below.refl _ _).alloc (Nat.le_refl _) _).alloc (by simp) _).alloc (by simp; omega) _
  obtain ⟨⟨k0, k1⟩, ⟨k2, k3⟩, ⟨k4, k5⟩, k6, k7⟩ := three_cells w (.int .i64 da) (.slice ad1 m1 cap1) (.int .i64 db) (.slice ad2 m2 cap2) (.int .i64 0) (.slice none 0 0) 45
  have hz0 : w.heap.size + 1 + 1 + 1 = (((w.alloc (.cells #[.int .i64 da, .slice ad1 m1 cap1] 45)).alloc (.cells #[.int .i64 db, .slice ad2 m2 cap2] 45)).alloc (.cells #[.int .i64 0, .slice none 0 0] 45)).heap.size := by simp
  generalize hW0 : (((w.alloc (.cells #[.int .i64 da, .slice ad1 m1 cap1] 45)).alloc (.cells #[.int .i64 db, .slice ad2 m2 cap2] 45)).alloc (.cells #[.int .i64 0, .slice none 0 0] 45)) = W0 at hb0 k0 k1 k2 k3 k4 k5 k6 k7 hz0
  have HW0 := Hid.mk' hW0
  have HB0 := Hid.mk' hb0
  have HE := Hid.mk' (h.below hb0)
  have HL2 := Hid.mk' (hl2.later hb0)
  have HK := Hid.mk' (And.intro k2 (And.intro k3 (And.intro k4 (And.intro k5 (And.intro k6 k7)))))
  by_cases hok1 : OkLog da n1 p1 c1
  · have hok2 : ¬ OkLog db n2 p2 c2 := fun h2 => hbad ⟨hok1, h2⟩
    have hv1 := Valid_log da _ n1 p1 c1 a true ⟨fun _ => hok1, fun _ => rfl⟩ W0 HE.out (hl1.later hb0) hn1
    simp only [shapeErr] at hv1
    have HO2 := Hid.mk' hok2
    clear h hl1 hl2 hbad hb0 hW0 hok1 hok2 k2 k3 k4 k5 k6 k7
    go_enter Tryz.func55, Tryz.ntmps55
    go_wp2_with fail
    rw [HW0.out]
    refine hv1.mono ?_
    clear hv1 k0 k1
    rintro e w1 ⟨rfl, hb1⟩
    have x0 := (cell_past HK.out.1 hb1).2
    have x1 := (cell_past HK.out.2.1 hb1).2
    have hv2 := Valid_log db _ n2 p2 c2 a false ⟨(fun e => by cases e), (fun e => absurd e HO2.out)⟩ w1 (HE.out.below hb1) (HL2.out.later hb1) hn2
    simp only [shapeErr] at hv2
    have HB1 := Hid.mk' hb1
    clear hb1
    go_wp2_with fail
    refine hv2.mono ?_
    clear hv2 x0 x1
    rintro e w2 ⟨rfl, hb2⟩
    have hbw := below_chain HB1.out hb2
    have y0 := (cell_past HK.out.2.2.1 hbw).2
    have y1 := (cell_past HK.out.2.2.2.1 hbw).2
    have g0 := (frozen_past HK.out.2.2.1 HK.out.2.2.2.2.1 hbw).2
    have g1 := (frozen_past HK.out.2.2.2.1 HK.out.2.2.2.2.2 hbw).2
    have HBW := Hid.mk' hbw
    clear hb2 hbw
    go_wp2_with fail
    refine bodyPost_ret (v := .tuple #[.agg #[.int .i64 0, .slice none 0 0], .iface 179 (.pointer (some (a 2)))]) (by simp [results, Tryz.results55, go_sem, y0, y1]) rfl ⟨rfl, ((below_chain HB0.out HBW.out).setCell (by simp; omega) _).setCell (by simp; omega) _⟩
  · have hv1 := Valid_log da _ n1 p1 c1 a false ⟨(fun e => by cases e), (fun e => absurd e hok1)⟩ W0 HE.out (hl1.later hb0) hn1
    simp only [shapeErr] at hv1
    clear h hl1 hl2 hbad hb0 hW0 hok1 k2 k3 k4 k5 k6 k7
    go_enter Tryz.func55, Tryz.ntmps55
    go_wp2_with fail
    rw [HW0.out]
    refine hv1.mono ?_
    clear hv1 k0 k1
    rintro e w1 ⟨rfl, hb1⟩
    have y0 := (cell_past HK.out.2.2.1 hb1).2
    have y1 := (cell_past HK.out.2.2.2.1 hb1).2
    have g0 := (frozen_past HK.out.2.2.1 HK.out.2.2.2.2.1 hb1).2
    have g1 := (frozen_past HK.out.2.2.2.1 HK.out.2.2.2.2.2 hb1).2
    have HBW := Hid.mk' hb1
    clear hb1
    go_wp2_with fail
    refine bodyPost_ret (v := .tuple #[.agg #[.int .i64 0, .slice none 0 0], .iface 179 (.pointer (some (a 2)))]) (by simp [results, Tryz.results55, go_sem, y0, y1]) rfl ⟨rfl, ((below_chain HB0.out HBW.out).setCell (by simp; omega) _).setCell (by simp; omega) _⟩
end Go.Proofs.YtofflboheiflaaaGreatDoor
