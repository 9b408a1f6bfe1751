/- logs.Add in general: ErrShape, ErrBound, or the sum in form. -/
import Derived.Test.YtphecjjblnnjdaaGreatDoorPackD
import Derived.Test.YtphecjjblnnjdaaGreatDoorPackC
import Derived.Test.YtphecjjblnnjdaaGreatDoorPackA
import Derived.Test.YtphecjjblnnjdaaGreatDoorTabErr
import Derived.Test.YtphecjjblnnjdaaGreatDoorFills
namespace Go.Proofs.YtphecjjblnnjdaaGreatDoor
open Go.RowKit Go.Maps

theorem some_bool (P : Prop) : ∃ b : Bool, b = true ↔ P := by
  by_cases h : P
  · exact ⟨true, ⟨fun _ => h, fun _ => rfl⟩⟩
  · exact ⟨false, ⟨(fun e => by cases e), (fun e => absurd e h)⟩⟩
/-- Has a sum a form? -/
def Fits (den : Int) (G : Nat) (l : List (Int × Int)) : Prop := den / (G : Int) ≤ 1000000 ∧ ∀ e ∈ l, (e.2.tdiv (G : Int)).natAbs ≤ 1099511627776
/-- told by lists, in general. -/
theorem told_list_any (den : Int) (b nn : Nat) (l : List (Int × Int)) (w : World) (hown : w.ownsMap Tryz.prog 3 (plainElem (H := Unit) Tryz.prog 3) b nn (mapOf l)) (hr : Rising l) (hk : ∀ e ∈ l, 2 ≤ e.1 ∧ e.1 ≤ 1000000) (hlen : l.length ≤ 100000)
    (hb : ∀ x, -2305843009213693952 ≤ atL l x ∧ atL l x ≤ 2305843009213693952) (hd1 : 1 ≤ den) (hd2 : den ≤ 1000000000000) (G : Nat) (hG : gcdL den (atL l) (l.map Prod.fst) l.length = G) (a : Nat → Addr) (hE : Errs w a) (fit : Bool) (hfit : fit = true ↔ Fits den G l) :
    Calls Tryz.prog 105 #[.agg #[.int .i64 den, .map (some b)]] w fun e w' => ((fit = true ∧ ∃ v, e = .returned (.tuple #[.agg #[.int .i64 (den / (G : Int)), v], .nilIface]) ∧ w'.ownsRow w.heap.size 99 2 v (overL G l).length (termCells (pOf (overL G l)) (cOf (overL G l)) (overL G l).length)) ∨ (fit = false ∧ e = .returned (.tuple #[.agg #[.int .i64 0, .slice none 0 0], .iface 245 (.pointer (some (a 1)))]))) ∧ Below w.heap.size w w' := by
  have hcf : ∀ e ∈ l, atL l e.1 = e.2 := fun e he => atL_mem hr he
  have ht := terms_flat (atL l) G l hcf
  have hfit' : fit = true ↔ (den / (G : Int) ≤ 1000000 ∧ ∀ x ∈ l.map Prod.fst, (quo (atL l) G x).natAbs ≤ 1099511627776) := hfit.trans ⟨fun h => ⟨h.1, fun x hx => by obtain ⟨e, he, rfl⟩ := List.mem_map.1 hx; unfold quo; rw [hcf e he]; exact h.2 e he⟩, fun h => ⟨h.1, fun e he => by have := h.2 e.1 (List.mem_map.2 ⟨e, he, rfl⟩); unfold quo at this; rw [hcf e he] at this; exact this⟩⟩
  have := told_any den b nn (mapOf l) (atL l) (l.map Prod.fst) w hown (at_map l) (sort_keys hr) (by rw [size_map]; exact hlen) (by rw [List.length_map]; exact hlen)
    (fun x hx => by obtain ⟨e, he, rfl⟩ := List.mem_map.1 hx; have := hk e he; exact wf_int (by omega)) hd1 hd2 hb G (by rw [List.length_map]; exact hG) a hE fit hfit'
  rw [ht.1, ht.2, flat_cells] at this
  exact this

/-- Two boxes and a result. -/
theorem three_cells (w : World) (x0 x1 y0 y1 r0 r1 : Value) (t : TypeId) :
    ((((w.alloc (.cells #[x0, x1] t)).alloc (.cells #[y0, y1] t)).alloc (.cells #[r0, r1] t)).cell? ⟨w.heap.size, 0, none⟩ = some x0 ∧ (((w.alloc (.cells #[x0, x1] t)).alloc (.cells #[y0, y1] t)).alloc (.cells #[r0, r1] t)).cell? ⟨w.heap.size, 1, none⟩ = some x1) ∧ ((((w.alloc (.cells #[x0, x1] t)).alloc (.cells #[y0, y1] t)).alloc (.cells #[r0, r1] t)).cell? ⟨w.heap.size + 1, 0, none⟩ = some y0 ∧ (((w.alloc (.cells #[x0, x1] t)).alloc (.cells #[y0, y1] t)).alloc (.cells #[r0, r1] t)).cell? ⟨w.heap.size + 1, 1, none⟩ = some y1) ∧ ((((w.alloc (.cells #[x0, x1] t)).alloc (.cells #[y0, y1] t)).alloc (.cells #[r0, r1] t)).cell? ⟨w.heap.size + 1 + 1, 0, none⟩ = some r0 ∧ (((w.alloc (.cells #[x0, x1] t)).alloc (.cells #[y0, y1] t)).alloc (.cells #[r0, r1] t)).cell? ⟨w.heap.size + 1 + 1, 1, none⟩ = some r1) ∧ (((w.alloc (.cells #[x0, x1] t)).alloc (.cells #[y0, y1] t)).alloc (.cells #[r0, r1] t)).frozen? ⟨w.heap.size + 1 + 1, 0, none⟩ = false ∧ (((w.alloc (.cells #[x0, x1] t)).alloc (.cells #[y0, y1] t)).alloc (.cells #[r0, r1] t)).frozen? ⟨w.heap.size + 1 + 1, 1, none⟩ = false := by
  refine ⟨⟨?_, ?_⟩, ⟨?_, ?_⟩, ⟨?_, ?_⟩, frozen_new (by simp), frozen_new (by simp)⟩
  · rw [World.cell?_alloc_lt _ _ ⟨w.heap.size, 0, none⟩ (by simp; omega), World.cell?_alloc_lt _ _ ⟨w.heap.size, 0, none⟩ (by simp), World.cell?_alloc_at _ _ _ _ rfl]; rfl
  · rw [World.cell?_alloc_lt _ _ ⟨w.heap.size, 1, none⟩ (by simp; omega), World.cell?_alloc_lt _ _ ⟨w.heap.size, 1, none⟩ (by simp), World.cell?_alloc_at _ _ _ _ rfl]; rfl
  · rw [World.cell?_alloc_lt _ _ ⟨w.heap.size + 1, 0, none⟩ (by simp), World.cell?_alloc_at _ _ _ _ (by simp)]; rfl
  · rw [World.cell?_alloc_lt _ _ ⟨w.heap.size + 1, 1, none⟩ (by simp), World.cell?_alloc_at _ _ _ _ (by simp)]; rfl
  · rw [World.cell?_alloc_at _ _ _ _ (by simp)]; rfl
  · rw [World.cell?_alloc_at _ _ _ _ (by simp)]; rfl

set_option maxRecDepth 100000 in
set_option maxHeartbeats 2000000 in
theorem Add_any (da db : Nat) (ad1 ad2 : Option Addr) (cap1 cap2 : Nat) (t1 t2 : List (Int × Int)) (a : Nat → Addr) (w : World) (h : Errs w a) (hl1 : LogAt w (.slice ad1 t1.length cap1) t1.length (pOf t1) (cOf t1)) (hl2 : LogAt w (.slice ad2 t2.length cap2) t2.length (pOf t2) (cOf t2))
    (hok1 : OkLog da t1.length (pOf t1) (cOf t1)) (hok2 : OkLog db t2.length (pOf t2) (cOf t2)) (hn : t1.length + t2.length ≤ 10000) (g : Nat) (hg : g = Int.gcd (da : Int) (db : Int)) :
    Calls Tryz.prog 75 #[.agg #[.int .i64 da, .slice ad1 t1.length cap1], .agg #[.int .i64 db, .slice ad2 t2.length cap2]] w fun e w' => (∃ (l : List (Int × Int)) (G : Nat), Rising l ∧ (∀ x, atL l x = atL t1 x * ((db / g : Nat) : Int) + atL t2 x * ((da / g : Nat) : Int)) ∧ gcdL ((da / g * db : Nat) : Int) (atL l) (l.map Prod.fst) l.length = G ∧ l.length ≤ t1.length + t2.length ∧
      ((Fits ((da / g * db : Nat) : Int) G l ∧ ∃ v, e = .returned (.tuple #[.agg #[.int .i64 (((da / g * db : Nat) : Int) / (G : Int)), v], .nilIface]) ∧ ListAt w' v (overL G l)) ∨ (¬ Fits ((da / g * db : Nat) : Int) G l ∧ e = .returned (.tuple #[.agg #[.int .i64 0, .slice none 0 0], .iface 245 (.pointer (some (a 1)))])))) ∧ Below w.heap.size w w' := by
  have hb0 : Below w.heap.size w (((w.alloc (.cells #[.int .i64 da, .slice ad1 t1.length cap1] 30)).alloc (.cells #[.int .i64 db, .slice ad2 t2.length cap2] 30)).alloc (.cells #[.int .i64 0, .slice none 0 0] 30)) := (((Below.refl _ _).alloc (Nat.le_refl _) _).alloc (by simp) _).alloc (by simp; omega) _
  have hk0 : AddKeeps w.heap.size da db (.slice ad1 t1.length cap1) (.slice ad2 t2.length cap2) t1.length t2.length t1 t2 (((w.alloc (.cells #[.int .i64 da, .slice ad1 t1.length cap1] 30)).alloc (.cells #[.int .i64 db, .slice ad2 t2.length cap2] 30)).alloc (.cells #[.int .i64 0, .slice none 0 0] 30)) :=
    ⟨by rw [World.cell?_alloc_lt _ _ ⟨w.heap.size, 0, none⟩ (by simp; omega), World.cell?_alloc_lt _ _ ⟨w.heap.size, 0, none⟩ (by simp), World.cell?_alloc_at _ _ _ _ rfl]; rfl,
     by rw [World.cell?_alloc_lt _ _ ⟨w.heap.size, 1, none⟩ (by simp; omega), World.cell?_alloc_lt _ _ ⟨w.heap.size, 1, none⟩ (by simp), World.cell?_alloc_at _ _ _ _ rfl]; rfl,
     by rw [World.cell?_alloc_lt _ _ ⟨w.heap.size + 1, 0, none⟩ (by simp), World.cell?_alloc_at _ _ _ _ (by simp)]; rfl,
     by rw [World.cell?_alloc_lt _ _ ⟨w.heap.size + 1, 1, none⟩ (by simp), World.cell?_alloc_at _ _ _ _ (by simp)]; rfl,
     by rw [World.cell?_alloc_at _ _ _ _ (by simp)]; rfl, by rw [World.cell?_alloc_at _ _ _ _ (by simp)]; rfl, frozen_new (by simp), frozen_new (by simp), hl1.later hb0, hl2.later hb0⟩
  generalize hW0 : (((w.alloc (.cells #[.int .i64 da, .slice ad1 t1.length cap1] 30)).alloc (.cells #[.int .i64 db, .slice ad2 t2.length cap2] 30)).alloc (.cells #[.int .i64 0, .slice none 0 0] 30)) = W0 at hb0 hk0
  have hv1 := Valid_log da _ t1.length (pOf t1) (cOf t1) a true ⟨fun _ => hok1, fun _ => rfl⟩ W0 (h.below hb0) hk0.l1 (by omega)
  simp only [shapeErr] at hv1
  have HE := Hid.mk' (h.below hb0)
  have HERR := Hid.mk' h
  have HK0 := Hid.mk' hk0
  have HB0 := Hid.mk' hb0
  have HW0 := Hid.mk' hW0
  have HO1 := Hid.mk' hok1
  have HO2 := Hid.mk' hok2
  have HG := Hid.mk' hg
  have hd1 : 1 ≤ da ∧ da ≤ 1000000 := by have := hok1.1; have := hok1.2.1; omega
  have hd2 : 1 ≤ db ∧ db ≤ 1000000 := by have := hok2.1; have := hok2.2.1; omega
  clear h hl1 hl2 hok1 hok2 hb0 hk0 hW0 hg
  go_enter Tryz.func75, Tryz.ntmps75
  go_wp2_with fail
  rw [HW0.out]
  refine hv1.mono ?_
  clear hv1 HW0
  rintro e w1 ⟨rfl, hb1⟩
  have HK1 := Hid.mk' (HK0.out.later hb1)
  have c1 := HK1.out.b0
  have c2 := HK1.out.b1
  have hv2 := Valid_log db _ t2.length (pOf t2) (cOf t2) a true ⟨fun _ => HO2.out, fun _ => rfl⟩ w1 (HE.out.below hb1) HK1.out.l2 (by omega)
  simp only [shapeErr] at hv2
  have HB1 := Hid.mk' (below_chain HB0.out hb1)
  clear hb1 HK0 HB0 HE
  go_wp2_with fail
  refine hv2.mono ?_
  clear hv2 c1 c2
  rintro e w2 ⟨rfl, hb2⟩
  have HK2 := Hid.mk' (HK1.out.later hb2)
  have HB2 := Hid.mk' (below_chain HB1.out hb2)
  have c0 := HK2.out.a0
  have c1 := HK2.out.b0
  clear hb2 HK1 HB1
  have hg1 : 1 ≤ g ∧ g ≤ da ∧ g ≤ db := by
    rw [HG.out]
    have h1 : Int.gcd (da : Int) (db : Int) ≤ da := Nat.gcd_le_left _ (by simp; omega)
    have h2 : Int.gcd (da : Int) (db : Int) ≤ db := Nat.gcd_le_right _ (by simp; omega)
    have h3 : 0 < Int.gcd (da : Int) (db : Int) := Nat.gcd_pos_of_pos_left _ (by simp; omega)
    exact ⟨h3, h1, h2⟩
  have hgcd := GCD_any (da : Int) (db : Int) w2 (by omega) (by omega) (by omega) (by omega)
  rw [← HG.out] at hgcd
  go_wp2_with fail
  refine hgcd.mono ?_
  clear hgcd
  rintro e w3 ⟨rfl, m3, hw3⟩
  have hb3 : Below w2.heap.size w2 w3 := by rw [hw3]; exact below_drewN (Below.refl _ _) _
  have HK3 := Hid.mk' (HK2.out.later hb3)
  have HB3 := Hid.mk' (below_chain HB2.out hb3)
  clear hw3 hb3 HK2 HB2 c0 c1
  have hcur0 : Below w3.heap.size w3 w3 := Below.refl _ _
  have hcur : Below w3.heap.size w3 w3.drew := (Below.refl _ _).drew
  have hgn : ¬ g = 0 := by omega
  have hqa := quo_i64 (b := g) hd1.2
  have hqb := quo_i64 (b := g) hd2.2
  have HQ := Hid.mk' (And.intro hqa hqb)
  have hda : da / g ≤ 1000000 := Nat.le_trans (Nat.div_le_self _ _) hd1.2
  have hdb : db / g ≤ 1000000 := Nat.le_trans (Nat.div_le_self _ _) hd2.2
  clear hqa hqb
  have e1 : (da : Int).tdiv (g : Int) = ((da / g : Nat) : Int) := by simp
  have e2 : IntKind.i64.wrap ((da : Int).tdiv (g : Int)) = ((da / g : Nat) : Int) := by rw [e1, IntKind.wrap_i64]; generalize da / g = q at hda; omega
  have e3 : IntKind.i64.wrap (((da / g : Nat) : Int) * (db : Int)) = ((da / g * db : Nat) : Int) := by
    have := Nat.mul_le_mul hda hd2.2
    rw [← Int.natCast_mul, IntKind.wrap_i64]
    generalize da / g * db = q at this
    omega
  have HKS : Hid (∀ W, Below w3.heap.size w3 W → W.cell? ⟨w.heap.size, 0, none⟩ = some (.int .i64 da) ∧ W.cell? ⟨w.heap.size + 1, 0, none⟩ = some (.int .i64 db)) := fun W hb => ⟨(HK3.out.later hb).a0, (HK3.out.later hb).b0⟩
  have eD : IntKind.i64.wrap (IntKind.i64.wrap ((da : Int) / (g : Int)) * (db : Int)) = ((da / g * db : Nat) : Int) := by
    rw [show IntKind.i64.wrap ((da : Int) / (g : Int)) = ((da / g : Nat) : Int) from HQ.out.1]; exact e3
  have hDb : da / g * db ≤ 1000000000000 := Nat.le_trans (Nat.mul_le_mul hda hd2.2) (by decide)
  have hDp : 1 ≤ da / g * db := Nat.mul_pos (Nat.div_pos hg1.2.1 hg1.1) hd2.1
  obtain ⟨D, hD⟩ : ∃ D, D = da / g * db := ⟨_, rfl⟩
  rw [← hD] at eD hDb hDp
  have HDD := Hid.mk' hD
  have HED := Hid.mk' eD
  clear e1 e2 e3 eD hD
  have hcurA : ∀ X, Below w3.heap.size w3 (w3.alloc X).drew := fun X => (below_alloc hcur0 X).drew
  go_wp2_with fail
  go_cut [9] from 27 (fun s wx => ∃ Bs mb : Nat, s = .pointer (some ⟨Bs, 0, none⟩) ∧ Hid (SumBox w3 wx Bs mb (D : Int)))
  case first =>
    go_region_held3 (fun W => W.cell? ⟨w.heap.size, 0, none⟩ = some (.int .i64 da) ∧ W.cell? ⟨w.heap.size + 1, 0, none⟩ = some (.int .i64 db))
      (first | (refine HKS.out _ ?_; assumption) | exact HKS.out _ (hcurA _) | (refine HKS.out _ (below_alloc ?_ _); assumption) | exact HKS.out _ (below_set hc4 _ _))
      (first
        | (go_at_call 103; refine (newSum_any _ _).mono ?_; rintro e w4 ⟨rfl, hown4, hb4⟩; have hc4 := below_chain hcur hb4)
        | (go_at_call 103; refine (newSum_any _ _).mono ?_; rintro e w4 ⟨rfl, hown4, hb4⟩; have hc4 := below_chain (hcurA _) hb4; obtain ⟨x0, x1, x2, x3⟩ := box_past hb4))
    · go_wp2_with fail
      go_meet
      rw [HED.out]
      exact ⟨_, _, rfl, sumBox_late hown4 hc4⟩
    · go_wp2_with fail
      go_meet
      rw [HED.out]
      exact ⟨_, _, rfl, sumBox_soon (by simpa using hown4) hc4 x0 x1⟩
  case rest =>
  obtain ⟨Bs, mb, rfl, HSB⟩ := hcut
  have hmb := HSB.out.hm
  have hBs := HSB.out.hB
  have hbsm : Bs ≠ mb := fun e => by have h1 := HSB.out.s0; rw [e, map_no_cell HSB.out.own] at h1; cases h1
  have hAK := fun (W : World) (hb : Below w3.heap.size w3 W) => HK3.out.later hb
  have HAK := Hid.mk' hAK
  have hm1 : 0 ≤ IntKind.i64.wrap ((db : Int) / (g : Int)) ∧ IntKind.i64.wrap ((db : Int) / (g : Int)) ≤ 1000000 := by rw [HQ.out.2]; generalize db / g = q at hdb; omega
  have hm2 : 0 ≤ IntKind.i64.wrap ((da : Int) / (g : Int)) ∧ IntKind.i64.wrap ((da : Int) / (g : Int)) ≤ 1000000 := by rw [HQ.out.1]; generalize da / g = q at hda; omega
  have HM2 := Hid.mk' hm2
  have HM1 := Hid.mk' hm1
  have hrise1 := HO1.out.rising
  have hrise2 := HO2.out.rising
  have HT1 : Hid (∀ e ∈ t1, 2 ≤ e.1 ∧ e.1 ≤ 1000000 ∧ -1099511627776 ≤ e.2 ∧ e.2 ≤ 1099511627776) := fun e he => by
    have h := HO1.out.mem e he
    exact ⟨h.2.2.2.2.1, h.1, h.2.2.1, h.2.2.2.1⟩
  have HT2 : Hid (∀ e ∈ t2, 2 ≤ e.1 ∧ e.1 ≤ 1000000 ∧ -1099511627776 ≤ e.2 ∧ e.2 ≤ 1099511627776) := fun e he => by
    have h := HO2.out.mem e he
    exact ⟨h.2.2.2.2.1, h.1, h.2.2.1, h.2.2.2.1⟩
  have HR1 := Hid.mk' hrise1
  have HR2 := Hid.mk' hrise2
  have hpt1 := putTerms_any (D : Int) (IntKind.i64.wrap ((db : Int) / (g : Int))) mb 0 ad1 cap1 [] t1 wc.drew (ownsMap_later HSB.out.own rfl) List.Pairwise.nil (fun e he => by cases he) (fun x => by simp [atL]) (HAK.out _ (HSB.out.below.drew)).l1 hrise1 HT1.out hm1 (by omega) (by omega)
  have HPT1 := Hid.mk' hpt1
  have hS9 : wc.cell? ⟨Bs, 0, none⟩ = some (.int .i64 (D : Int)) ∧ wc.cell? ⟨Bs, 1, none⟩ = some (.map (some mb)) ∧ wc.cell? ⟨w.heap.size, 1, none⟩ = some (.slice ad1 t1.length cap1) ∧ wc.cell? ⟨w.heap.size + 1, 0, none⟩ = some (.int .i64 db) := ⟨HSB.out.s0, HSB.out.s1, (HAK.out _ HSB.out.below).a1, (HAK.out _ HSB.out.below).b0⟩
  have HS9 := Hid.mk' hS9
  clear hpt1 hrise1 hrise2 hAK hS9 hm1 hm2 HK3 HKS
  go_wp2_with fail
  go_region_held3 (fun W => W.cell? ⟨Bs, 0, none⟩ = some (.int .i64 (D : Int)) ∧ W.cell? ⟨Bs, 1, none⟩ = some (.map (some mb)) ∧ W.cell? ⟨w.heap.size, 1, none⟩ = some (.slice ad1 t1.length cap1) ∧ W.cell? ⟨w.heap.size + 1, 0, none⟩ = some (.int .i64 db))
    (first | exact HS9.out | exact HS5.out)
    (first
      | (go_at_call 116; refine HPT1.out.mono ?_; rintro e w5 ⟨rfl, l1, hI1⟩; have HI1 := Hid.mk' hI1; have hB5 := grown_below HSB.out.below.drew hI1.grow hmb; have HS5 : Hid (w5.cell? ⟨Bs, 0, none⟩ = some (.int .i64 (D : Int)) ∧ w5.cell? ⟨Bs, 1, none⟩ = some (.map (some mb)) ∧ w5.cell? ⟨w.heap.size, 1, none⟩ = some (.slice ad1 t1.length cap1) ∧ w5.cell? ⟨w.heap.size + 1, 0, none⟩ = some (.int .i64 db)) := ⟨cell_beside hI1.grow HS9.out.1 hbsm, cell_beside hI1.grow HS9.out.2.1 hbsm, (HAK.out _ hB5).a1, (HAK.out _ hB5).b0⟩; clear hI1))
  have hB5 := grown_below HSB.out.below.drew HI1.out.grow hmb
  have hv1 : ∀ x, atL l1 x = atL t1 x * IntKind.i64.wrap ((db : Int) / (g : Int)) := fun x => by
    have := HI1.out.val x
    rw [List.take_length] at this
    simpa [atL] using this
  have hb1 : ∀ x, -1099511627776000000 ≤ atL l1 x ∧ atL l1 x ≤ 1099511627776000000 := fun x => by
    rw [hv1 x]
    exact prod_bd (atL_bound (B := 1099511627776) (by omega) (fun e he => ⟨(HT1.out e he).2.2.1, (HT1.out e he).2.2.2⟩) x) HM1.out
  have hln1 := HI1.out.len
  simp at hln1
  have hpt2 := putTerms_any (D : Int) (IntKind.i64.wrap ((da : Int) / (g : Int))) mb (0 + t1.length) ad2 cap2 l1 t2 w5.drew (ownsMap_later HI1.out.own rfl) HI1.out.rise HI1.out.keys hb1 (HAK.out _ hB5.drew).l2 HR2.out HT2.out HM2.out (by omega) (by omega)
  have HPT2 := Hid.mk' hpt2
  have HV1 := Hid.mk' hv1
  have HS7 : Hid (w5.cell? ⟨Bs, 0, none⟩ = some (.int .i64 (D : Int)) ∧ w5.cell? ⟨Bs, 1, none⟩ = some (.map (some mb)) ∧ w5.cell? ⟨w.heap.size + 1, 1, none⟩ = some (.slice ad2 t2.length cap2) ∧ w5.cell? ⟨w.heap.size, 0, none⟩ = some (.int .i64 da)) := ⟨HS5.out.1, HS5.out.2.1, (HAK.out _ hB5).b1, (HAK.out _ hB5).a0⟩
  have HB5 := Hid.mk' hB5
  clear hpt2 hv1 hb1 HS5 HS9 hB5
  go_wp2_with fail
  go_region_held3 (fun W => W.cell? ⟨Bs, 0, none⟩ = some (.int .i64 (D : Int)) ∧ W.cell? ⟨Bs, 1, none⟩ = some (.map (some mb)) ∧ W.cell? ⟨w.heap.size + 1, 1, none⟩ = some (.slice ad2 t2.length cap2) ∧ W.cell? ⟨w.heap.size, 0, none⟩ = some (.int .i64 da))
    (first | exact HS7.out | exact HS8.out)
    (first
      | (go_at_call 116; refine HPT2.out.mono ?_; rintro e w6 ⟨rfl, l2, hI2⟩; have HI2 := Hid.mk' hI2; have hB6 := grown_below HB5.out.drew hI2.grow hmb; have HS8 : Hid (w6.cell? ⟨Bs, 0, none⟩ = some (.int .i64 (D : Int)) ∧ w6.cell? ⟨Bs, 1, none⟩ = some (.map (some mb)) ∧ w6.cell? ⟨w.heap.size + 1, 1, none⟩ = some (.slice ad2 t2.length cap2) ∧ w6.cell? ⟨w.heap.size, 0, none⟩ = some (.int .i64 da)) := ⟨cell_beside hI2.grow HS7.out.1 hbsm, cell_beside hI2.grow HS7.out.2.1 hbsm, (HAK.out _ hB6).b1, (HAK.out _ hB6).a0⟩; clear hI2))
  have hB6 := grown_below HB5.out.drew HI2.out.grow hmb
  have hv2 : ∀ x, atL l2 x = atL t1 x * ((db / g : Nat) : Int) + atL t2 x * ((da / g : Nat) : Int) := fun x => by
    have h1 := HI2.out.val x
    rw [List.take_length, HV1.out x, HQ.out.1, HQ.out.2] at h1
    exact h1
  obtain ⟨G, hG⟩ : ∃ G, gcdL ((da / g * db : Nat) : Int) (atL l2) (l2.map Prod.fst) l2.length = G := ⟨_, rfl⟩
  have hln2 := HI2.out.len
  have hbd2 : ∀ x, -2305843009213693952 ≤ atL l2 x ∧ atL l2 x ≤ 2305843009213693952 := fun x => by
    have h1 := prod_bd (atL_bound (B := 1099511627776) (by omega) (fun e he => ⟨(HT1.out e he).2.2.1, (HT1.out e he).2.2.2⟩) x) HM1.out
    have h2 := prod_bd (atL_bound (B := 1099511627776) (by omega) (fun e he => ⟨(HT2.out e he).2.2.1, (HT2.out e he).2.2.2⟩) x) HM2.out
    rw [hv2 x, ← HQ.out.1, ← HQ.out.2]
    omega
  rw [← HDD.out] at hG
  obtain ⟨fit, hfit⟩ := some_bool (Fits (D : Int) G l2)
  have ht := told_list_any (D : Int) mb _ l2 w6 HI2.out.own HI2.out.rise HI2.out.keys (by omega) hbd2 (by omega) (by omega) G hG a (HERR.out.below (below_chain HB3.out hB6)) fit hfit
  have HRES := Hid.mk' (And.intro HI2.out.rise (And.intro hv2 (And.intro hG hln2)))
  have x0 := HS8.out.1
  have x1 := HS8.out.2.1
  have HB6 := Hid.mk' hB6
  have HFI := Hid.mk' hfit
  clear hv2 hG hfit hbd2 hB6 HS7 HS8
  go_wp2_with fail
  refine ht.mono ?_
  clear ht x0 x1
  rintro e w7 ⟨hres, hb7⟩
  have hB7 := below_chain HB6.out hb7
  have HA7 := Hid.mk' (HAK.out _ hB7)
  have c0 := HA7.out.r0
  have c1 := HA7.out.r1
  have d0 := HA7.out.f0
  have d1 := HA7.out.f1
  have HB8 := Hid.mk' (below_chain HB3.out hB7)
  have z3 := cell_lt (HAK.out w3 (Below.refl _ _)).r0
  simp only at z3
  have z6 := HB6.out.size
  clear hb7 hB7
  rcases hres with ⟨hft, v, rfl, hrow⟩ | ⟨hff, rfl⟩
  · have HR := Hid.mk' hrow
    obtain ⟨ad, n', c', rfl⟩ : ∃ ad n' c', v = .slice ad n' c' := by
      rcases hrow.2 with ⟨rfl, _⟩ | ⟨gg, cap', cur', rfl, _⟩
      · exact ⟨_, _, _, rfl⟩
      · exact ⟨_, _, _, rfl⟩
    clear hrow
    go_wp2_with fail
    refine bodyPost_ret (v := .tuple #[.agg #[.int .i64 ((D : Int) / (G : Int)), .slice ad n' c'], .nilIface]) (by simp [results, Tryz.results75, go_sem, c0, c1]) rfl ⟨⟨l2, G, HRES.out.1, HRES.out.2.1, by rw [← HDD.out]; exact HRES.out.2.2.1, by have := HRES.out.2.2.2; omega, Or.inl ⟨by rw [← HDD.out]; exact HFI.out.1 hft, .slice ad n' c', by rw [← HDD.out], ?_⟩⟩, ?_⟩
    · have h1 := ownsRow_setCell_below HR.out (a := ⟨w.heap.size + 1 + 1, 0, none⟩) (by show w.heap.size + 1 + 1 < _; omega) (.int .i64 ((D : Int) / (G : Int)))
      have h2 := ownsRow_setCell_below h1 (a := ⟨w.heap.size + 1 + 1, 1, none⟩) (by show w.heap.size + 1 + 1 < _; omega) (.slice ad n' c')
      exact ownAt_of_row h2
    · exact (HB8.out.setCell (by simp; omega) _).setCell (by simp; omega) _
  · go_wp2_with fail
    refine bodyPost_ret (v := .tuple #[.agg #[.int .i64 0, .slice none 0 0], .iface 245 (.pointer (some (a 1)))]) (by simp [results, Tryz.results75, go_sem, c0, c1]) rfl ⟨⟨l2, G, HRES.out.1, HRES.out.2.1, by rw [← HDD.out]; exact HRES.out.2.2.1, by have := HRES.out.2.2.2; omega, Or.inr ⟨by rw [← HDD.out]; exact (fun h => Bool.noConfusion ((HFI.out.2 h).symm.trans hff)), rfl⟩⟩, ?_⟩
    exact (HB8.out.setCell (by simp; omega) _).setCell (by simp; omega) _

set_option maxRecDepth 100000 in
set_option maxHeartbeats 2000000 in
/-- Add where one of the two is not in form. -/
theorem Add_shape (da db : Int) (v1 v2 : Value) (n1 n2 : Nat) (p1 c1 p2 c2 : Nat → Int) (a : Nat → Addr) (w : World) (h : Errs w a) (hl1 : LogAt w v1 n1 p1 c1) (hl2 : LogAt w v2 n2 p2 c2) (hn1 : n1 ≤ 1000000) (hn2 : n2 ≤ 1000000) (hbad : ¬ (OkLog da n1 p1 c1 ∧ OkLog db n2 p2 c2)) :
    Calls Tryz.prog 75 #[.agg #[.int .i64 da, v1], .agg #[.int .i64 db, v2]] w fun e w' => e = .returned (.tuple #[.agg #[.int .i64 0, .slice none 0 0], .iface 245 (.pointer (some (a 2)))]) ∧ Below w.heap.size w w' := by
  obtain ⟨ad1, m1, cap1, rfl⟩ : ∃ ad m cap, v1 = .slice ad m cap := by rcases hl1 with ⟨ad, cap, rfl, _⟩ | ⟨b, o, cap, rfl, _⟩ <;> exact ⟨_, _, _, rfl⟩
  obtain ⟨ad2, m2, cap2, rfl⟩ : ∃ ad m cap, v2 = .slice ad m cap := by rcases hl2 with ⟨ad, cap, rfl, _⟩ | ⟨b, o, cap, rfl, _⟩ <;> exact ⟨_, _, _, rfl⟩
  have hb0 : Below w.heap.size w (((w.alloc (.cells #[.int .i64 da, .slice ad1 m1 cap1] 30)).alloc (.cells #[.int .i64 db, .slice ad2 m2 cap2] 30)).alloc (.cells #[.int .i64 0, .slice none 0 0] 30)) := (((Below.refl _ _).alloc (Nat.le_refl _) _).alloc (by simp) _).alloc (by simp; omega) _
  obtain ⟨⟨k0, k1⟩, ⟨k2, k3⟩, ⟨k4, k5⟩, k6, k7⟩ := three_cells w (.int .i64 da) (.slice ad1 m1 cap1) (.int .i64 db) (.slice ad2 m2 cap2) (.int .i64 0) (.slice none 0 0) 30
  have hz0 : w.heap.size + 1 + 1 + 1 = (((w.alloc (.cells #[.int .i64 da, .slice ad1 m1 cap1] 30)).alloc (.cells #[.int .i64 db, .slice ad2 m2 cap2] 30)).alloc (.cells #[.int .i64 0, .slice none 0 0] 30)).heap.size := by simp
  generalize hW0 : (((w.alloc (.cells #[.int .i64 da, .slice ad1 m1 cap1] 30)).alloc (.cells #[.int .i64 db, .slice ad2 m2 cap2] 30)).alloc (.cells #[.int .i64 0, .slice none 0 0] 30)) = W0 at hb0 k0 k1 k2 k3 k4 k5 k6 k7 hz0
  have HW0 := Hid.mk' hW0
  have HB0 := Hid.mk' hb0
  have HE := Hid.mk' (h.below hb0)
  have HL2 := Hid.mk' (hl2.later hb0)
  have HK := Hid.mk' (And.intro k2 (And.intro k3 (And.intro k4 (And.intro k5 (And.intro k6 k7)))))
  by_cases hok1 : OkLog da n1 p1 c1
  · have hok2 : ¬ OkLog db n2 p2 c2 := fun h2 => hbad ⟨hok1, h2⟩
    have hv1 := Valid_log da _ n1 p1 c1 a true ⟨fun _ => hok1, fun _ => rfl⟩ W0 HE.out (hl1.later hb0) hn1
    simp only [shapeErr] at hv1
    have HO2 := Hid.mk' hok2
    clear h hl1 hl2 hbad hb0 hW0 hok1 hok2 k2 k3 k4 k5 k6 k7
    go_enter Tryz.func75, Tryz.ntmps75
    go_wp2_with fail
    rw [HW0.out]
    refine hv1.mono ?_
    clear hv1 k0 k1
    rintro e w1 ⟨rfl, hb1⟩
    have x0 := (cell_past HK.out.1 hb1).2
    have x1 := (cell_past HK.out.2.1 hb1).2
    have hv2 := Valid_log db _ n2 p2 c2 a false ⟨(fun e => by cases e), (fun e => absurd e HO2.out)⟩ w1 (HE.out.below hb1) (HL2.out.later hb1) hn2
    simp only [shapeErr] at hv2
    have HB1 := Hid.mk' hb1
    clear hb1
    go_wp2_with fail
    refine hv2.mono ?_
    clear hv2 x0 x1
    rintro e w2 ⟨rfl, hb2⟩
    have hbw := below_chain HB1.out hb2
    have y0 := (cell_past HK.out.2.2.1 hbw).2
    have y1 := (cell_past HK.out.2.2.2.1 hbw).2
    have g0 := (frozen_past HK.out.2.2.1 HK.out.2.2.2.2.1 hbw).2
    have g1 := (frozen_past HK.out.2.2.2.1 HK.out.2.2.2.2.2 hbw).2
    have HBW := Hid.mk' hbw
    clear hb2 hbw
    go_wp2_with fail
    refine bodyPost_ret (v := .tuple #[.agg #[.int .i64 0, .slice none 0 0], .iface 245 (.pointer (some (a 2)))]) (by simp [results, Tryz.results75, go_sem, y0, y1]) rfl ⟨rfl, ((below_chain HB0.out HBW.out).setCell (by simp; omega) _).setCell (by simp; omega) _⟩
  · have hv1 := Valid_log da _ n1 p1 c1 a false ⟨(fun e => by cases e), (fun e => absurd e hok1)⟩ W0 HE.out (hl1.later hb0) hn1
    simp only [shapeErr] at hv1
    clear h hl1 hl2 hbad hb0 hW0 hok1 k2 k3 k4 k5 k6 k7
    go_enter Tryz.func75, Tryz.ntmps75
    go_wp2_with fail
    rw [HW0.out]
    refine hv1.mono ?_
    clear hv1 k0 k1
    rintro e w1 ⟨rfl, hb1⟩
    have y0 := (cell_past HK.out.2.2.1 hb1).2
    have y1 := (cell_past HK.out.2.2.2.1 hb1).2
    have g0 := (frozen_past HK.out.2.2.1 HK.out.2.2.2.2.1 hb1).2
    have g1 := (frozen_past HK.out.2.2.2.1 HK.out.2.2.2.2.2 hb1).2
    have HBW := Hid.mk' hb1
    clear hb1
    go_wp2_with fail
    refine bodyPost_ret (v := .tuple #[.agg #[.int .i64 0, .slice none 0 0], .iface 245 (.pointer (some (a 2)))]) (by simp [results, Tryz.results75, go_sem, y0, y1]) rfl ⟨rfl, ((below_chain HB0.out HBW.out).setCell (by simp; omega) _).setCell (by simp; omega) _⟩
end Go.Proofs.YtphecjjblnnjdaaGreatDoor

/- Two lists that tell the same; the document's sum of two in form. -/
namespace Go.Proofs.YtphecjjblnnjdaaGreatDoor
open Go.RowKit

def nzL (l : List (Int × Int)) : List (Int × Int) := l.filter fun e => !decide (e.2 = 0)
theorem nz_rise {l : List (Int × Int)} (h : Rising l) : Rising (nzL l) := List.Pairwise.filter _ h
theorem nz_nz {l : List (Int × Int)} : ∀ e ∈ nzL l, e.2 ≠ 0 := fun e he => by
  have := (List.mem_filter.1 he).2
  simpa using this
theorem nz_at {l : List (Int × Int)} (h : Rising l) (x : Int) : atL (nzL l) x = atL l x := by
  by_cases h0 : atL l x = 0
  · rw [h0]
    by_cases h1 : atL (nzL l) x = 0
    · exact h1
    · have h2 := (List.mem_filter.1 (atL_some h1)).1
      have h3 := atL_mem h h2
      simp only at h3
      exact h3.symm.trans h0
  · exact atL_mem (nz_rise h) (List.mem_filter.2 ⟨atL_some h0, by simpa using h0⟩)
theorem nz_same {l l' : List (Int × Int)} (h : Rising l) (h' : Rising l') (he : ∀ x, atL l x = atL l' x) : nzL l = nzL l' := rising_ext (nz_rise h) (nz_rise h') nz_nz nz_nz (fun x => by rw [nz_at h, nz_at h', he])
theorem nz_snd (l : List (Int × Int)) : (nzL l).map Prod.snd = (l.map Prod.snd).filter fun x => !decide (x = 0) := by
  unfold nzL
  rw [List.filter_map]
  rfl
theorem gList_same {l l' : List (Int × Int)} (h : Rising l) (h' : Rising l') (he : ∀ x, atL l x = atL l' x) (g : Nat) : gList g (l.map Prod.snd) = gList g (l'.map Prod.snd) := by
  rw [← gList_zeros, ← gList_zeros (l'.map Prod.snd), ← nz_snd, ← nz_snd, nz_same h h' he]
theorem over_same {l l' : List (Int × Int)} (h : Rising l) (h' : Rising l') (he : ∀ x, atL l x = atL l' x) (G : Nat) : overL G l = overL G l' := rising_ext (rising_over h G) (rising_over h' G) (fun e he => over_nz he) (fun e he => over_nz he) (fun x => by rw [atL_over h, atL_over h', he])
theorem fits_same {l l' : List (Int × Int)} (h' : Rising l') (he : ∀ x, atL l x = atL l' x) {M G : Nat} (hf : FitsL M G l) : FitsL M G l' := by
  refine ⟨hf.1, fun e hm => ?_⟩
  by_cases h0 : e.2 = 0
  · rw [h0]; simp
  · have h1 := atL_mem h' hm
    have h2 := he e.1
    rw [h1] at h2
    have h3 := hf.2 _ (atL_some (l := l) (x := e.1) (by rw [h2]; exact h0))
    simpa [h2] using h3
theorem gcdL_list {D : Nat} {l : List (Int × Int)} (hr : Rising l) : gcdL (D : Int) (atL l) (l.map Prod.fst) l.length = gList D (l.map Prod.snd) := by
  have h0 : gcdL (D : Int) (atL l) (l.map Prod.fst) l.length = gcdTo (D : Int) (cOf l) l.length := by
    have aux : ∀ k, k ≤ l.length → gcdTo (D : Int) (fun i => atL l ((l.map Prod.fst).getD i 0)) k = gcdTo (D : Int) (cOf l) k := by
      intro k
      induction k with
      | zero => intro _; rfl
      | succ k ih =>
        intro hk
        show Int.gcd (gcdTo (D : Int) (fun i => atL l ((l.map Prod.fst).getD i 0)) k : Int) (atL l ((l.map Prod.fst).getD k 0)) = Int.gcd (gcdTo (D : Int) (cOf l) k : Int) (cOf l k)
        rw [ih (by omega)]
        have : atL l ((l.map Prod.fst).getD k 0) = cOf l k := by rw [getD_fst (by omega)]; exact atL_mem hr (getD_mem (by omega))
        rw [this]
    exact aux _ (Nat.le_refl _)
  rw [h0, gcdTo_list _ _ _ (Nat.le_refl _), List.take_length, Int.natAbs_natCast]
theorem sumAt_list {t : List (Int × Int)} (hr : Rising t) (x : Int) : ∀ k, k ≤ t.length → sumAt (pOf t) (cOf t) x k = atL (t.take k) x
  | 0, _ => by simp [sumAt, atL]
  | k + 1, h => by
    rw [atL_take hr (by omega)]
    show sumAt _ _ _ k + _ = _
    rw [sumAt_list hr x k (by omega)]
    by_cases hx : x = pOf t k
    · rw [if_pos hx, if_pos hx.symm]
    · rw [if_neg hx, if_neg (Ne.symm hx)]
theorem sumAt_all {t : List (Int × Int)} (hr : Rising t) (x : Int) : sumAt (pOf t) (cOf t) x t.length = atL t x := by rw [sumAt_list hr x _ (Nat.le_refl _), List.take_length]
theorem sumAt_le {p c : Nat → Int} {n : Nat} (h : ∀ i, i < n → 0 ≤ p i ∧ -1099511627776 ≤ c i ∧ c i ≤ 1099511627776) (x : Int) : ∀ k, k ≤ n → (sumAt p c x k).natAbs ≤ k * 1099511627776
  | 0, _ => by simp [sumAt]
  | k + 1, hk => by
    have ih := sumAt_le h x k (by omega)
    have h1 := h k (by omega)
    show (sumAt p c x k + if x = p k then c k else 0).natAbs ≤ _
    by_cases hx : x = p k
    · rw [if_pos hx]; omega
    · rw [if_neg hx]; omega
theorem mul_bound {F s : Int} {a b : Nat} (hF : F.natAbs ≤ a) (hs : s.natAbs ≤ b) : (F * s).natAbs ≤ a * b := by rw [Int.natAbs_mul]; exact Nat.mul_le_mul hF hs
theorem okLog_pc {d : Int} {n : Nat} {p c : Nat → Int} (h : OkLog d n p c) : ∀ i, i < n → 0 ≤ p i ∧ -1099511627776 ≤ c i ∧ c i ≤ 1099511627776 := fun i hi => by
  have h1 := (h.2.2.1 i hi).2
  exact ⟨by have := h1.2.2.2.2.1; omega, h1.2.2.1, h1.2.2.2.1⟩
theorem LogAt.listed' {w : World} {sv : Value} {n : Nat} {p c : Nat → Int} (h : LogAt w sv n p c) : ∃ t : List (Int × Int), n = t.length ∧ LogAt w sv t.length (pOf t) (cOf t) := by
  refine ⟨(List.range n).map fun i => (p i, c i), by simp, ?_⟩
  rcases h with ⟨ad, cap, h1, h2⟩ | ⟨b, o, cap, h1, h2, h3⟩
  · exact Or.inl ⟨ad, cap, h1, by simp [h2]⟩
  · refine Or.inr ⟨b, o, cap, by simpa using h1, by simpa using h2, fun i hi => ?_⟩
    have hi' : i < n := by simpa using hi
    have e1 : pOf ((List.range n).map fun i => (p i, c i)) i = p i := by simp [pOf, List.getD, hi']
    have e2 : cOf ((List.range n).map fun i => (p i, c i)) i = c i := by simp [cOf, List.getD, hi']
    rw [e1, e2]
    exact h3 i hi'

/-- The answer of a sum: in form and nil, or nothing and ErrBound. -/
def SaidOf (M : Nat) (l : List (Int × Int)) (a : Nat → Addr) (w : World) (dn : Int) (v er : Value) : Prop := (FitsL M (gList M (l.map Prod.snd)) l ∧ dn = ((M / gList M (l.map Prod.snd) : Nat) : Int) ∧ er = .nilIface ∧ ListAt w v (overL (gList M (l.map Prod.snd)) l)) ∨ (¬ FitsL M (gList M (l.map Prod.snd)) l ∧ dn = 0 ∧ v = .slice none 0 0 ∧ er = .iface 245 (.pointer (some (a 1))))
theorem ToldOf.same {M : Nat} {l l' : List (Int × Int)} (h : Rising l) (h' : Rising l') (he : ∀ x, atL l x = atL l' x) {w : World} {dn : Int} {v : Value} {code : Int} (ht : ToldOf M l w dn v code) : ToldOf M l' w dn v code := by
  have hg := gList_same h h' he M
  have ho := over_same h h' he (gList M (l'.map Prod.snd))
  rcases ht with ⟨h1, h2, h3, h4⟩ | ⟨h1, h2, h3, h4⟩
  · rw [hg] at h1 h2 h4
    rw [ho] at h4
    exact Or.inl ⟨fits_same h' he h1, h2, h3, h4⟩
  · rw [hg] at h1
    exact Or.inr ⟨fun hf => h1 (fits_same h (fun x => (he x).symm) hf), h2, h3, h4⟩
theorem ToldOf.later {M : Nat} {l : List (Int × Int)} {w w' : World} {dn : Int} {v : Value} {code : Int} (ht : ToldOf M l w dn v code) (hb : Below w.heap.size w w') : ToldOf M l w' dn v code := by
  rcases ht with ⟨h1, h2, h3, h4⟩ | h
  · exact Or.inl ⟨h1, h2, h3, OwnAt.later h4 hb⟩
  · exact Or.inr h
theorem SaidOf.later {M : Nat} {l : List (Int × Int)} {a : Nat → Addr} {w w' : World} {dn : Int} {v er : Value} (ht : SaidOf M l a w dn v er) (hb : Below w.heap.size w w') : SaidOf M l a w' dn v er := by
  rcases ht with ⟨h1, h2, h3, h4⟩ | h
  · exact Or.inl ⟨h1, h2, h3, OwnAt.later h4 hb⟩
  · exact Or.inr h

/-- isLog of what both say of one sum. -/
theorem isLog_said (M : Nat) (l : List (Int × Int)) (a : Nat → Addr) (w : World) (h : Errs w a) (hl : l.length ≤ 1000000) (dn1 dn2 code : Int) (ad1 ad2 : Option Addr) (m1 m2 cap1 cap2 : Nat) (er : Value) (h1 : SaidOf M l a w dn1 (.slice ad1 m1 cap1) er) (h2 : ToldOf M l w dn2 (.slice ad2 m2 cap2) code) :
    Calls Tryz.prog 14 #[.agg #[.int .i64 dn1, .slice ad1 m1 cap1], er, .agg #[.int .i64 dn2, .slice ad2 m2 cap2], .int .i64 code] w fun e w' => e = .returned (.bool true) ∧ Below w.heap.size w w' := by
  rcases h1 with ⟨f1, rfl, rfl, l1⟩ | ⟨f1, rfl, v1, rfl⟩
  · rcases h2 with ⟨_, rfl, rfl, l2⟩ | ⟨f2, _⟩
    · exact isLog_ok _ _ _ _ _ _ w l1 l2 (by have := length_over l (gList M (l.map Prod.snd)); omega)
    · exact absurd f1 f2
  · rcases h2 with ⟨f2, _⟩ | ⟨_, rfl, v2, rfl⟩
    · exact absurd f2 f1
    · rw [v1]
      exact isLog_err a 1 (by decide) 0 ad2 m2 cap2 w h
end Go.Proofs.YtphecjjblnnjdaaGreatDoor

/- dist.sumOver: a sum of all that a function puts. -/
namespace Go.Proofs.YtphecjjblnnjdaaGreatDoor
open Go.RowKit Go.Maps

/-- What is told of a sum that has a form: f over M. -/
def LogBy (base M : Nat) (f : Int → Int) (w : World) (dn : Int) (v : Value) : Prop := ∃ l : List (Int × Int), Rising l ∧ (∀ x, atL l x = f x) ∧ l.length ≤ 90000 ∧ dn = ((M / gList M (l.map Prod.snd) : Nat) : Int) ∧ w.ownsRow base 99 2 v (overL (gList M (l.map Prod.snd)) l).length (termCells (pOf (overL (gList M (l.map Prod.snd)) l)) (cOf (overL (gList M (l.map Prod.snd)) l)) (overL (gList M (l.map Prod.snd)) l).length)
theorem LogBy.form {base M : Nat} {f : Int → Int} {w : World} {dn : Int} {v : Value} (h : LogBy base M f w dn v) : ∃ ad n c, v = .slice ad n c := by
  obtain ⟨l, _, _, _, _, hr⟩ := h
  rcases hr.2 with ⟨rfl, _⟩ | ⟨gg, cap', cur', rfl, _⟩
  · exact ⟨_, _, _, rfl⟩
  · exact ⟨_, _, _, rfl⟩
theorem LogBy.later {base M : Nat} {f : Int → Int} {w w' : World} {dn : Int} {v : Value} (h : LogBy base M f w dn v) (hb : Below w.heap.size w w') : LogBy base M f w' dn v := by
  obtain ⟨l, h1, h2, h3, h5, hr⟩ := h
  exact ⟨l, h1, h2, h3, h5, ownsRow_past hr hb⟩
theorem LogBy.lower {base base' M : Nat} {f : Int → Int} {w : World} {dn : Int} {v : Value} (h : LogBy base M f w dn v) (hb : base' ≤ base) : LogBy base' M f w dn v := by
  obtain ⟨l, h1, h2, h3, h5, hr⟩ := h
  exact ⟨l, h1, h2, h3, h5, row_base hr hb⟩
theorem LogBy.set {base M : Nat} {f : Int → Int} {w : World} {dn : Int} {v : Value} (h : LogBy base M f w dn v) {B : Nat} (hB : B < base) (x y : Value) : LogBy base M f ((w.setCell ⟨B, 0, none⟩ x).setCell ⟨B, 1, none⟩ y) dn v := by
  obtain ⟨l, h1, h2, h3, h5, hr⟩ := h
  exact ⟨l, h1, h2, h3, h5, ownsRow_setCell_below (ownsRow_setCell_below hr (a := ⟨B, 0, none⟩) hB x) (a := ⟨B, 1, none⟩) hB y⟩
theorem LogBy.list {base M : Nat} {f : Int → Int} {w : World} {dn : Int} {v : Value} (h : LogBy base M f w dn v) : ∃ l : List (Int × Int), Rising l ∧ (∀ x, atL l x = f x) ∧ l.length ≤ 90000 ∧ dn = ((M / gList M (l.map Prod.snd) : Nat) : Int) ∧ ListAt w v (overL (gList M (l.map Prod.snd)) l) := by
  obtain ⟨l, h1, h2, h3, h5, hr⟩ := h
  exact ⟨l, h1, h2, h3, h5, ownAt_of_row hr⟩

set_option maxRecDepth 100000 in
set_option maxHeartbeats 2000000 in
theorem sumOver_any (K : Nat) (cap : Array Value) (M c : Nat) (f : Int → Int) (w : World) (hent : ∀ (args : Array Value) (w : World), (callFunc K args).run Tryz.prog w = .ok (.enter K args) w) (hM : 1 ≤ M) (hM6 : M ≤ 4096) (hc : c ≤ 4000) (hf : ∀ x, -1000000000 ≤ f x ∧ f x ≤ 1000000000)
    (hp : ∀ (W : World) (mb : Nat), Below w.heap.size w W → W.ownsMap Tryz.prog 3 (plainElem (H := Unit) Tryz.prog 3) mb 0 (mapOf []) → Calls Tryz.prog K (#[putV M mb] ++ cap) W fun e w' => e = .returned (.tuple #[]) ∧ ∃ l nn, Puts W w' mb f c [] 0 l nn) :
    Calls Tryz.prog 85 #[.int .i64 M, .func (.func K) #[] cap] w fun e w' => ∃ dn v, e = .returned (.tuple #[.agg #[.int .i64 dn, v], .nilIface]) ∧ LogBy w.heap.size M f w' dn v ∧ Below w.heap.size w w' := by
  obtain ⟨W0, hW0⟩ : ∃ W0, W0 = w.alloc (.cells #[.int .i64 0, .slice none 0 0] 30) := ⟨_, rfl⟩
  have hb0 : Below w.heap.size w W0 := by rw [hW0]; exact new_below _ _
  have hres : ∀ W, Below W0.heap.size W0 W → W.cell? ⟨w.heap.size, 0, none⟩ = some (.int .i64 0) ∧ W.cell? ⟨w.heap.size, 1, none⟩ = some (.slice none 0 0) ∧ W.frozen? ⟨w.heap.size, 0, none⟩ = false ∧ W.frozen? ⟨w.heap.size, 1, none⟩ = false := fun W hb => by
    rw [hW0] at hb
    obtain ⟨q0, q1, q2, q3⟩ := res_past hb
    exact ⟨q0, q1, q2, q3⟩
  have hsz : W0.heap.size = w.heap.size + 1 := by rw [hW0]; simp
  have hov := newSum_any (M : Int) W0
  have HP := Hid.mk' hp
  have HF := Hid.mk' hf
  have HB0 := Hid.mk' hb0
  have HRES := Hid.mk' hres
  have HW0 := Hid.mk' hW0
  have HSZ := Hid.mk' hsz
  clear hp hf hb0 hres hW0 hsz
  go_enter Tryz.func85, Tryz.ntmps85
  go_wp2_with fail
  rw [← HW0.out]
  refine hov.mono ?_
  clear hov
  rintro e w1 ⟨rfl, hown1, hb1⟩
  have HB1 := Hid.mk' hb1
  have ho1 : (w1.alloc (.cells #[.int .i64 M, .map (some (W0.heap.size + 1))] 145)).ownsMap Tryz.prog 3 (plainElem (H := Unit) Tryz.prog 3) (W0.heap.size + 1) 0 (mapOf []) := ownsMap_later hown1 (Below.heap_alloc _ _ _ hown1.lt)
  have HX1 : Hid (w1.cell? ⟨W0.heap.size + 1, 0, none⟩ = none) := map_no_cell hown1
  have hlt1 := hown1.lt
  obtain ⟨W1, hW1⟩ : ∃ W1, W1 = w1.alloc (.cells #[.int .i64 M, .map (some (W0.heap.size + 1))] 145) := ⟨_, rfl⟩
  have hs0 : W1.cell? ⟨w1.heap.size, 0, none⟩ = some (.int .i64 M) := by rw [hW1]; simp
  have hs1 : W1.cell? ⟨w1.heap.size, 1, none⟩ = some (.map (some (W0.heap.size + 1))) := by rw [hW1]; simp
  have HB2 : Hid (Below W0.heap.size W0 W1) := by rw [hW1]; exact below_chain hb1 (new_below _ _)
  rw [← hW1] at ho1
  have HO1 := Hid.mk' ho1
  have HS := Hid.mk' (And.intro hs0 hs1)
  have HW1 := Hid.mk' hW1
  have HLT := Hid.mk' hlt1
  clear hown1 hb1 ho1 hs0 hs1 hW1 hlt1
  go_upto_region 2 with fail
  rw [← HW1.out]
  obtain ⟨hs0, hs1⟩ := HS.out
  have hcall := HP.out W1 (W0.heap.size + 1) (below_chain HB0.out HB2.out) HO1.out
  unfold putV at hcall
  clear HP
  go_wp2_with fail
  refine hcall.mono ?_
  clear hcall hs0 hs1
  rintro e w2 ⟨rfl, l, nn, hpt⟩
  have hne : w1.heap.size ≠ W0.heap.size + 1 := by have := HLT.out; omega
  have hs0 := cell_beside hpt.grow HS.out.1 hne
  have hs1 := cell_beside hpt.grow HS.out.2 hne
  have hz1 := HB2.out.size
  have hlw : w.heap.size < W0.heap.size := by have := HSZ.out; omega
  have HB3 : Hid (Below W0.heap.size W0 w2) := HB2.out.grown hpt.grow HB2.out.size (fun k e => by cases e; omega)
  have hval : ∀ x, atL l x = f x := fun x => by have := hpt.val x; simpa [atL] using this
  have hlen : l.length ≤ 90000 := by have := hpt.len; simp at this; omega
  have hG := gcdL_list (D := M) hpt.rise
  have hfit : ∀ e ∈ l, (e.2.tdiv (gList M (l.map Prod.snd) : Int)).natAbs ≤ 1099511627776 := fun e he => by
    have h1 := HF.out e.1
    rw [← hval, atL_mem hpt.rise he] at h1
    rw [Int.natAbs_tdiv]
    exact Nat.le_trans (Nat.div_le_self _ _) (by omega)
  have ht := told_list (M : Int) (W0.heap.size + 1) nn l w2 hpt.own hpt.rise hpt.keys (by omega) (fun x => by rw [hval]; have := HF.out x; omega) (by omega) (by omega) _ hG (by rw [← Int.natCast_ediv]; exact Int.le_trans (Int.ofNat_le.2 (Nat.div_le_self _ _)) (by omega)) hfit
  have HLB : Hid (Rising l ∧ (∀ x, atL l x = f x) ∧ l.length ≤ 90000) := ⟨hpt.rise, hval, hlen⟩
  have HLW := Hid.mk' hlw
  clear hpt hval hlen hG hfit HF hz1 hlw HS HO1 HW1
  go_wp2_with fail
  refine ht.mono ?_
  clear ht hs0 hs1
  rintro e w3 ⟨v, rfl, hrow, hb3⟩
  obtain ⟨c0, c1, q0, q1⟩ := HRES.out w3 (below_chain HB3.out hb3)
  have HBW := Hid.mk' (below_chain HB0.out (below_chain HB3.out hb3))
  have HZ : Hid (w.heap.size < w2.heap.size) := by have h1 := HLW.out; have h2 := HB3.out.size; show _ < _; omega
  have HROW := Hid.mk' hrow
  obtain ⟨ad, n', c', rfl⟩ : ∃ ad n' c', v = .slice ad n' c' := by
    rcases hrow.2 with ⟨rfl, _⟩ | ⟨gg, cap', cur', rfl, _⟩
    · exact ⟨_, _, _, rfl⟩
    · exact ⟨_, _, _, rfl⟩
  clear hrow hb3 HRES
  go_wp2_with fail
  refine bodyPost_ret (v := .tuple #[.agg #[.int .i64 ((M : Int) / (gList M (l.map Prod.snd) : Int)), .slice ad n' c'], .nilIface]) (by simp [results, Tryz.results85, go_sem, c0, c1]) rfl ⟨_, .slice ad n' c', rfl, ⟨l, HLB.out.1, HLB.out.2.1, HLB.out.2.2, by simp, ?_⟩, ?_⟩
  · have h1 := ownsRow_setCell_below HROW.out (a := ⟨w.heap.size, 0, none⟩) HZ.out (.int .i64 ((M : Int) / (gList M (l.map Prod.snd) : Int)))
    have h2 := ownsRow_setCell_below h1 (a := ⟨w.heap.size, 1, none⟩) HZ.out (.slice ad n' c')
    exact row_base h2 (Nat.le_of_lt HZ.out)
  · exact (HBW.out.setCell (by simp) _).setCell (by simp) _

/-- Two that are told of one sum are the same. -/
theorem isLog_by {M b1 b2 : Nat} {f g : Int → Int} {w : World} {d1 d2 : Int} {v1 v2 : Value} (h1 : LogBy b1 M f w d1 v1) (h2 : LogBy b2 M g w d2 v2) (he : ∀ x, f x = g x) :
    Calls Tryz.prog 14 #[.agg #[.int .i64 d1, v1], .nilIface, .agg #[.int .i64 d2, v2], .int .i64 0] w fun e w' => e = .returned (.bool true) ∧ Below w.heap.size w w' := by
  obtain ⟨l1, r1, a1, n1, rfl, o1⟩ := h1.list
  obtain ⟨l2, r2, a2, n2, rfl, o2⟩ := h2.list
  have hx : ∀ x, atL l1 x = atL l2 x := fun x => by rw [a1, a2, he]
  rw [gList_same r1 r2 hx] at o1 ⊢
  rw [over_same r1 r2 hx] at o1
  exact isLog_ok _ _ _ _ _ _ w o1 o2 (by have := length_over l2 (gList M (l2.map Prod.snd)); omega)
end Go.Proofs.YtphecjjblnnjdaaGreatDoor

/- dist.Entropy at any weights. -/
namespace Go.Proofs.YtphecjjblnnjdaaGreatDoor
open Go.RowKit Go.Maps

theorem new_one {w w1 : World} {x : Value} {t : TypeId} (hb : Below (w.alloc (.cells #[x] t)).heap.size (w.alloc (.cells #[x] t)) w1) : w1.cell? ⟨w.heap.size, 0, none⟩ = some x := by
  have c0 : (w.alloc (.cells #[x] t)).cell? ⟨w.heap.size, 0, none⟩ = some x := by rw [World.cell?_alloc_at _ _ _ _ rfl]; rfl
  exact (cell_past c0 hb).2

set_option maxRecDepth 100000 in
theorem Entropy_parts (den : Int) (mb B b o cap n : Nat) (z : Nat → Int) (w : World) (hown : w.ownsMap Tryz.prog 3 (plainElem (H := Unit) Tryz.prog 3) mb 0 (mapOf [])) (hB : w.cell? ⟨B, 0, none⟩ = some (.slice (some ⟨b, o, none⟩) n cap)) (h : RowAt w b o n z) (hz : ∀ i, i < n → 0 ≤ z i) (hs : sumN z n ≤ 4096) (hn : n ≤ 256) :
    Calls Tryz.prog 106 #[putV den mb, .pointer (some ⟨B, 0, none⟩)] w fun e w' => e = .returned (.tuple #[]) ∧ ∃ l nn, Puts w w' mb (fun x => sumN (entV z (sumN z n).toNat x) n) (2 * n) [] 0 l nn := by
  have hp := putEntropy_some den mb 0 b o cap n z [] w hown List.Pairwise.nil (fun e he => by cases he) (fun x => by simp [atL]) (by omega) h hz hs hn
  clear hown h hz hs
  unfold putV at hp ⊢
  go_enter Tryz.func106, Tryz.ntmps106
  go_wp2_with fail
  refine hp.mono ?_
  clear hp
  rintro e w1 ⟨rfl, l, nn, hpt⟩
  have HP := Hid.mk' hpt
  clear hpt
  go_wp2_with fail
  go_end0
  exact ⟨rfl, l, nn, HP.out⟩

theorem ent_bound {z : Nat → Int} {n N : Nat} (hz : ∀ i, i < n → 0 ≤ z i ∧ z i ≤ 4096) (hN : N ≤ 4096) (hn : n ≤ 256) (x : Int) : -1000000000 ≤ sumN (entV z N x) n ∧ sumN (entV z N x) n ≤ 1000000000 := by
  have h3 := sumN_bound (f := entV z N x) (B := 200000) (n := n) (fun i hi => entV_le x (hz i hi) hN)
  have : (n : Int) * 200000 ≤ 51200000 := by omega
  omega

set_option maxRecDepth 100000 in
set_option maxHeartbeats 1000000 in
theorem Entropy_ok (a : Nat → Addr) (b o cap n N : Nat) (z : Nat → Int) (w : World) (hE : Errs w a) (h : RowAt w b o n z) (h0 : weightsErr z n = 0) (hN : sumN z n = N) (hz : ∀ i, i < n → 0 ≤ z i) (hn : n ≤ 16) (hN1 : 1 ≤ N) (hN6 : N ≤ 4096) (h0n : 0 < n) :
    Calls Tryz.prog 65 #[.slice (some ⟨b, o, none⟩) n cap] w fun e w' => ∃ dn v, e = .returned (.tuple #[.agg #[.int .i64 dn, v], .nilIface]) ∧ LogBy w.heap.size N (fun x => sumN (entV z N x) n) w' dn v ∧ Below w.heap.size w w' := by
  have hzi : ∀ i, i < n → 0 ≤ z i ∧ z i ≤ 4096 := fun i hi => ⟨hz i hi, by have := sumN_ge hz hi; omega⟩
  have hle : ∀ k, k ≤ n → 0 ≤ sumN z k ∧ sumN z k ≤ 4096 := fun k hk => ⟨sumN_nonneg (fun i hi => hz i (by omega)), by have := sumN_mono hz hk; omega⟩
  obtain ⟨W0, hW0⟩ : ∃ W0, W0 = (w.alloc (.cells #[.slice (some ⟨b, o, none⟩) n cap] 22)).alloc (.cells #[.int .i64 0, .slice none 0 0] 30) := ⟨_, rfl⟩
  have hb0 : Below w.heap.size w W0 := by rw [hW0]; exact below_chain (new_below _ _) (new_below _ _)
  have hbox : W0.cell? ⟨w.heap.size, 0, none⟩ = some (.slice (some ⟨b, o, none⟩) n cap) := by rw [hW0]; exact new_one (new_below _ _)
  have hres : ∀ W, Below W0.heap.size W0 W → W.cell? ⟨w.heap.size + 1, 0, none⟩ = some (.int .i64 0) ∧ W.cell? ⟨w.heap.size + 1, 1, none⟩ = some (.slice none 0 0) ∧ W.frozen? ⟨w.heap.size + 1, 0, none⟩ = false ∧ W.frozen? ⟨w.heap.size + 1, 1, none⟩ = false := fun W hb => by
    rw [hW0] at hb
    have := res_past hb
    simpa using this
  have hv := Valid_weights a (.slice (some ⟨b, o, none⟩) n cap) n z W0 (hE.below hb0) (Or.inr ⟨b, o, cap, rfl, h0n, h.later hb0⟩) (by omega)
  rw [h0] at hv
  have ht := total_some b o cap n z W0 (h.later hb0) (fun k hk => by have := hle k hk; omega) (fun i hi => by have := hzi i hi; omega) (by omega)
  rw [hN] at ht
  have hso := sumOver_any 106 #[.pointer (some ⟨w.heap.size, 0, none⟩)] N (2 * n) (fun x => sumN (entV z N x) n) W0 (enters_of Tryz.func106 (by kernel_rfl) rfl) hN1 hN6 (by omega) (fun x => ent_bound hzi hN6 (by omega) x)
    (fun W mb hb ho => by
      have := Entropy_parts N mb w.heap.size b o cap n z W ho (cell_past hbox hb).2 ((h.later hb0).later hb) hz (by omega) (by omega)
      rw [hN, Int.toNat_natCast] at this
      exact this)
  have HB0 := Hid.mk' hb0
  have HRES := Hid.mk' hres
  have HW0 := Hid.mk' hW0
  have hlt : w.heap.size + 1 < W0.heap.size := by rw [hW0]; simp
  have HLT := Hid.mk' hlt
  clear hE h hb0 hres hW0 hzi hle hz hN h0 hlt
  go_enter Tryz.func65, Tryz.ntmps65
  go_upto_region 1 with fail
  rw [← HW0.out]
  go_wp2_with fail
  refine hv.mono ?_
  clear hv
  rintro e w1 ⟨rfl, hw1⟩
  rw [hw1]
  clear hw1
  rw [errV_zero]
  go_wp2_with (first
    | (go_at_call 44; refine ht.mono ?_; rintro e w2 ⟨rfl, hw2⟩; rw [hw2]; clear hw2)
    | (go_at_call 85; refine hso.mono ?_; rintro e w3 ⟨dn, v, rfl, hlb, hb3⟩; obtain ⟨c0, c1, q0, q1⟩ := HRES.out w3 hb3; have HBW := Hid.mk' (below_chain HB0.out hb3); have HLB := Hid.mk' hlb; obtain ⟨ad, n', c', rfl⟩ := hlb.form; clear hlb))
  refine bodyPost_ret (v := .tuple #[.agg #[.int .i64 dn, .slice ad n' c'], .nilIface]) (by simp [results, Tryz.results65, go_sem, c0, c1]) rfl ⟨_, .slice ad n' c', rfl, (HLB.out.set HLT.out _ _).lower (by have := HLT.out; omega), ?_⟩
  exact (HBW.out.setCell (by simp) _).setCell (by simp) _

set_option maxRecDepth 100000 in
set_option maxHeartbeats 1000000 in
theorem Entropy_bad (a : Nat → Addr) (v : Value) (n : Nat) (z : Nat → Int) (w : World) (hE : Errs w a) (h : NumsAt w v n z) (hn : n ≤ 400) (h0 : weightsErr z n ≠ 0) :
    Calls Tryz.prog 65 #[v] w fun e w' => e = .returned (.tuple #[.agg #[.int .i64 0, .slice none 0 0], errV a (weightsErr z n)]) ∧ Below w.heap.size w w' := by
  obtain ⟨ad, cap, rfl⟩ := h.form
  obtain ⟨W0, hW0⟩ : ∃ W0, W0 = (w.alloc (.cells #[.slice ad n cap] 22)).alloc (.cells #[.int .i64 0, .slice none 0 0] 30) := ⟨_, rfl⟩
  have hb0 : Below w.heap.size w W0 := by rw [hW0]; exact below_chain (new_below _ _) (new_below _ _)
  have hbox : W0.cell? ⟨w.heap.size, 0, none⟩ = some (.slice ad n cap) := by rw [hW0]; exact new_one (new_below _ _)
  have hres : W0.cell? ⟨w.heap.size + 1, 0, none⟩ = some (.int .i64 0) ∧ W0.cell? ⟨w.heap.size + 1, 1, none⟩ = some (.slice none 0 0) ∧ W0.frozen? ⟨w.heap.size + 1, 0, none⟩ = false ∧ W0.frozen? ⟨w.heap.size + 1, 1, none⟩ = false := by
    rw [hW0]
    simp
  have hv := Valid_weights a (.slice ad n cap) n z W0 (hE.below hb0) (h.later hb0) (by omega)
  rw [errV_pos a h0] at hv ⊢
  generalize a (weightsErr z n - 1) = ea at hv ⊢
  obtain ⟨c0, c1, q0, q1⟩ := hres
  have HB0 := Hid.mk' hb0
  have HW0 := Hid.mk' hW0
  clear hE h hb0 hW0 h0
  go_enter Tryz.func65, Tryz.ntmps65
  go_upto_region 1 with fail
  rw [← HW0.out]
  go_wp2_with (go_at_call 77; refine hv.mono ?_; rintro e w1 ⟨rfl, hw1⟩; rw [hw1]; clear hw1)
  refine bodyPost_ret (v := .tuple #[.agg #[.int .i64 0, .slice none 0 0], .iface 245 (.pointer (some ea))]) (by simp [results, Tryz.results65, go_sem, c0, c1]) rfl ⟨rfl, ?_⟩
  exact (HB0.out.setCell (by simp) _).setCell (by simp) _
end Go.Proofs.YtphecjjblnnjdaaGreatDoor

/- The document's Told of a sum that has a form; EntropyOf. -/
namespace Go.Proofs.YtphecjjblnnjdaaGreatDoor
open Go.RowKit

theorem row_form {w : World} {base : Nat} {t : TypeId} {sz : Nat} {v : Value} {n : Nat} {xs : List Value} (h : w.ownsRow base t sz v n xs) : ∃ ad cap, v = .slice ad n cap := by
  rcases h.2 with ⟨rfl, h0⟩ | ⟨gg, cap', cur', rfl, _⟩
  · exact ⟨none, 0, by rw [h0]⟩
  · exact ⟨_, _, rfl⟩
theorem WTold_by (base M B : Nat) (vp vc : Value) (L : List Ent) (f : Int → Int) (w : World) (hW : WideAt base M w B vp vc L) (hr : Rising (absL L)) (hM : 0 < M) (hM6 : M ≤ 4096) (hlen : L.length ≤ 90000) (hv : ∀ x, atL (absL L) x = f x) (hf : ∀ x, -1000000000 ≤ f x ∧ f x ≤ 1000000000) :
    Calls Tryz.prog 22 #[.pointer (some ⟨B, 0, none⟩)] w fun e w' => ∃ dn v, e = .returned (.tuple #[.agg #[.int .i64 dn, v], .int .i64 0]) ∧ LogBy w.heap.size M f w' dn v ∧ Below w.heap.size w w' := by
  have p3 : (1000000 : Nat) ^ 3 = 1000000000000000000 := by decide
  obtain ⟨adp, capp, rfl⟩ := row_form hW.P
  obtain ⟨adc, capc, rfl⟩ := row_form hW.C
  have hzs : (absL L).map Prod.snd = zsOf L := by simp [absL, zsOf]
  have hz : ∀ e ∈ L, e.z.natAbs ≤ 1000000000 := fun e he => by
    have h0 := atL_mem hr (absL_mem he)
    simp only at h0
    have h1 := hf (e.p : Int)
    rw [← hv, h0] at h1
    omega
  have hfit : FitsW M (gList M (zsOf L)) L := ⟨Nat.le_trans (Nat.div_le_self _ _) (by omega), fun e he => by
    rw [Int.natAbs_tdiv]
    exact Nat.le_trans (Nat.div_le_self _ _) (by have := hz e he; omega)⟩
  refine (WTold_any base M B adp adc capp capc L 3 (gList M (zsOf L)) true w hW hM (by omega) (fun e he => by rw [p3]; have := hz e he; omega) (by rw [p3]; omega) (by decide) (by decide) rfl ⟨fun _ => hfit, fun _ => rfl⟩).mono ?_
  rintro e w' ⟨⟨_, v, rfl, hrow⟩ | ⟨h0, _⟩, hb⟩
  · refine ⟨_, v, rfl, ⟨absL L, hr, hv, by rw [absL_length]; exact hlen, by rw [hzs], ?_⟩, hb⟩
    rw [hzs, ← flat_cells]
    exact hrow
  · cases h0

end Go.Proofs.YtphecjjblnnjdaaGreatDoor

/- The law's closed fact: of a fair coin the entropy is 1. -/
namespace Go.Proofs.YtphecjjblnnjdaaGreatDoor
open Go.RowKit Go.Maps

theorem pr_two' : Pr 2 := (isPr_iff 2).1 (by decide)
theorem coin_val (x : Int) : sumN (entV (fun _ => 3) 6 x) 2 = atL [((2 : Int), (6 : Int))] x := by
  have h := multI_step x (n := 6) (d := 2) (by decide) pr_two' (by decide)
  have e : 6 / 2 = 3 := by decide
  rw [e] at h
  show 0 + (3 * multI x 6 - 3 * multI x (3 : Int).toNat) + (3 * multI x 6 - 3 * multI x (3 : Int).toNat) = if (2 : Int) = x then 6 else 0
  have e3 : (3 : Int).toNat = 3 := rfl
  rw [e3, h]
  rw [show ((2 : Nat) : Int) = 2 from rfl]
  by_cases hx : x = 2
  · subst hx; simp; omega
  · rw [if_neg hx, if_neg (fun e => hx e.symm)]; omega
theorem coin_list {base : Nat} {w : World} {dn : Int} {v : Value} (h : LogBy base 6 (fun x => sumN (entV (fun _ => 3) 6 x) 2) w dn v) : dn = 1 ∧ OwnAt w v 1 (fun _ => 2) (fun _ => 1) := by
  obtain ⟨l, hr, hv, _, hd, hl⟩ := h.list
  have he : ∀ x, atL l x = atL [((2 : Int), (6 : Int))] x := fun x => by rw [hv, coin_val]
  have hr' : Rising [((2 : Int), (6 : Int))] := List.pairwise_singleton _ _
  rw [gList_same hr hr' he, over_same hr hr' he] at hl
  rw [gList_same hr hr' he] at hd
  have e1 : overL (gList 6 (List.map Prod.snd [((2 : Int), (6 : Int))])) [((2 : Int), (6 : Int))] = [(2, 1)] := by decide
  rw [e1] at hl
  refine ⟨by rw [hd]; decide, ?_⟩
  rcases hl with ⟨_, h0⟩ | ⟨g, cap, h1, h2⟩
  · cases h0
  · refine Or.inr ⟨g, cap, h1, fun k hk => ?_⟩
    obtain rfl : k = 0 := by omega
    exact h2 0 (by decide)

end Go.Proofs.YtphecjjblnnjdaaGreatDoor

/- isLog at errors. -/
namespace Go.Proofs.YtphecjjblnnjdaaGreatDoor
open Go.RowKit

theorem isLog_bad (a : Nat → Addr) (c : Nat) (hc : c ≠ 0) (hc8 : c ≤ 8) (d2 : Int) (ad2 : Option Addr) (m2 cap2 : Nat) (w : World) (h : Errs w a) :
    Calls Tryz.prog 14 #[.agg #[.int .i64 0, .slice none 0 0], errV a c, .agg #[.int .i64 d2, .slice ad2 m2 cap2], .int .i64 (c : Int)] w fun e w' => e = .returned (.bool true) ∧ Below w.heap.size w w' := by
  have h1 := isLog_err a (c - 1) (by omega) d2 ad2 m2 cap2 w h
  rw [errV_pos a hc]
  have e : ((c - 1 : Nat) : Int) + 1 = (c : Int) := by omega
  rw [e] at h1
  exact h1
/-- A result's box behind calls. -/
theorem box_past2 {w w1 : World} {x y : Value} {t : TypeId} (hb : Below (w.alloc (.cells #[x, y] t)).heap.size (w.alloc (.cells #[x, y] t)) w1) : w1.cell? ⟨w.heap.size, 0, none⟩ = some x ∧ w1.cell? ⟨w.heap.size, 1, none⟩ = some y ∧ w1.frozen? ⟨w.heap.size, 0, none⟩ = false ∧ w1.frozen? ⟨w.heap.size, 1, none⟩ = false := res_past hb

end Go.Proofs.YtphecjjblnnjdaaGreatDoor

/- dist.Joint; the law DistJoint. -/
namespace Go.Proofs.YtphecjjblnnjdaaGreatDoor
open Go.RowKit Go.Maps

theorem tabErr_ok {R : Nat} {ns : Nat → Nat} {zs : Nat → Nat → Int} (h : tabErr R ns zs = 0) : R ≤ 16 ∧ longB ns R = false ∧ unevenB ns R = false ∧ OkW (atF (flatL ns zs R)) (flatL ns zs R).length ∧ (flatL ns zs R).length ≤ 256 := by
  unfold tabErr at h
  by_cases h1 : 16 < R
  · rw [if_pos h1] at h; cases h
  rw [if_neg h1] at h
  cases h2 : longB ns R with
  | true => rw [h2, if_pos rfl] at h; cases h
  | false =>
    rw [h2, if_neg (by simp)] at h
    cases h3 : unevenB ns R with
    | true => rw [h3, if_pos rfl] at h; cases h
    | false =>
      rw [h3, if_neg (by simp)] at h
      exact ⟨by omega, rfl, rfl, listErr_ok h, by rw [flatL_length]; exact sumT_small h1 h2⟩
theorem tabErr_le (R : Nat) (ns : Nat → Nat) (zs : Nat → Nat → Int) : tabErr R ns zs ≤ 3 := by
  unfold tabErr listErr
  repeat (split; omega)
  omega
theorem row_some {w : World} {base : Nat} {v : Value} {n : Nat} {l : List Int} (h : w.ownsRow base 3 1 v n (cellL l)) (hl : l.length = n) (h0 : 0 < n) : ∃ g cap, v = .slice (some ⟨g, 0, none⟩) n cap ∧ RowAt w g 0 n (atF l) := by
  subst hl
  rcases numsAt_row h with ⟨_, _, _, h1⟩ | ⟨b, o, cap, hv, _, hr⟩
  · omega
  · rcases h.2 with ⟨hv', _⟩ | ⟨g, cap', cur, hv', _⟩
    · rw [hv] at hv'; simp at hv'
    · rw [hv] at hv'
      simp only [Value.slice.injEq, Option.some.injEq, Addr.mk.injEq, and_true, true_and] at hv'
      obtain ⟨⟨rfl, rfl⟩, rfl⟩ := hv'
      exact ⟨b, cap, hv, hr⟩

end Go.Proofs.YtphecjjblnnjdaaGreatDoor

/- Right tables: rows, columns, all. -/
namespace Go.Proofs.YtphecjjblnnjdaaGreatDoor

def lsum : List Int → Int
  | [] => 0
  | x :: r => x + lsum r
theorem lsum_append : ∀ l r : List Int, lsum (l ++ r) = lsum l + lsum r
  | [], r => by simp [lsum]
  | x :: l, r => by simp only [List.cons_append, lsum, lsum_append l r]; omega
theorem lsum_row (z : Nat → Int) : ∀ n, lsum (rowL z n) = sumN z n
  | 0 => rfl
  | n + 1 => by
    have ih := lsum_row z n
    unfold rowL at ih ⊢
    rw [List.range_succ, List.map_append, lsum_append, ih]
    simp [lsum, sumN]
theorem rowL_atF (l : List Int) : rowL (atF l) l.length = l := by
  refine List.ext_getElem (by simp [rowL]) (fun i h1 h2 => ?_)
  simp [rowL, atF, List.getD, List.getElem?_eq_getElem h2]
theorem sumN_list (l : List Int) : sumN (atF l) l.length = lsum l := by rw [← lsum_row, rowL_atF]
/-- A function's sum over a list, as over its places. -/
theorem sumN_map (g : Int → Int) (l : List Int) : sumN (fun i => g (atF l i)) l.length = lsum (l.map g) := by
  have h : rowL (fun i => g (atF l i)) l.length = l.map g := by
    refine List.ext_getElem (by simp [rowL]) (fun i h1 h2 => ?_)
    have h3 : i < l.length := by simpa using h2
    simp [rowL, atF, List.getD, List.getElem?_eq_getElem h3]
  rw [← lsum_row, h]
theorem lsum_flat (g : Int → Int) (ns : Nat → Nat) (zs : Nat → Nat → Int) : ∀ k, lsum ((flatL ns zs k).map g) = sumN (fun i => sumN (fun j => g (zs i j)) (ns i)) k
  | 0 => rfl
  | k + 1 => by
    show lsum ((flatL ns zs k ++ rowL (zs k) (ns k)).map g) = _
    rw [List.map_append, lsum_append, lsum_flat g ns zs k]
    have : (rowL (zs k) (ns k)).map g = rowL (fun j => g (zs k j)) (ns k) := by simp [rowL]
    rw [this, lsum_row]
    rfl
theorem mem_flat {ns : Nat → Nat} {zs : Nat → Nat → Int} : ∀ {k i j : Nat}, i < k → j < ns i → zs i j ∈ flatL ns zs k
  | k + 1, i, j, hi, hj => by
    show zs i j ∈ flatL ns zs k ++ rowL (zs k) (ns k)
    rw [List.mem_append]
    rcases Nat.lt_or_ge i k with h | h
    · exact Or.inl (mem_flat h hj)
    · obtain rfl : i = k := by omega
      exact Or.inr (List.mem_map.2 ⟨j, List.mem_range.2 hj, rfl⟩)
/-- A right table. -/
structure OkT (R : Nat) (ns : Nat → Nat) (zs : Nat → Nat → Int) (N : Nat) : Prop where
  r0 : 0 < R
  r16 : R ≤ 16
  c0 : 0 < ns 0
  c16 : ns 0 ≤ 16
  even : ∀ i, i < R → ns i = ns 0
  nn : ∀ i, i < R → ∀ j, j < ns i → 0 ≤ zs i j
  tot : sumN (fun i => sumN (zs i) (ns i)) R = N
  n1 : 1 ≤ N
  n6 : N ≤ 4096
theorem not_uneven {ns : Nat → Nat} {n i : Nat} (h : unevenB ns n = false) (hi : i < n) : ns i = ns 0 := by
  by_cases h' : ns i = ns 0
  · exact h'
  · rw [unevenB_mono hi h'] at h; cases h
theorem okT_of {R : Nat} {ns : Nat → Nat} {zs : Nat → Nat → Int} (h1 : R ≤ 16) (h2 : longB ns R = false) (h3 : unevenB ns R = false) (h4 : OkW (atF (flatL ns zs R)) (flatL ns zs R).length) : ∃ N, OkT R ns zs N ∧ sumN (atF (flatL ns zs R)) (flatL ns zs R).length = N := by
  obtain ⟨N, hN⟩ := Int.eq_ofNat_of_zero_le (Int.le_of_lt h4.pos)
  have hp := h4.posN
  rw [flatL_length] at hp
  have hr0 : 0 < R := Nat.pos_of_ne_zero (fun e => by subst e; simp [sumT] at hp)
  have hc0 : 0 < ns 0 := Nat.pos_of_ne_zero (fun e => by
    have := sumT_le (ns := ns) (B := 0) (n := R) (fun i hi => by have := not_uneven h3 hi; omega)
    omega)
  have h5 := h4.pos
  have h6 := h4.le
  have hsum : sumN (atF (flatL ns zs R)) (flatL ns zs R).length = sumN (fun i => sumN (zs i) (ns i)) R := by
    rw [sumN_list]
    have := lsum_flat id ns zs R
    simpa using this
  refine ⟨N, ⟨hr0, h1, hc0, not_long h2 0 hr0, fun i hi => not_uneven h3 hi, fun i hi j hj => ?_, by rw [← hsum]; exact hN, by omega, by omega⟩, hN⟩
  obtain ⟨q, hq⟩ := List.getElem?_of_mem (mem_flat (zs := zs) hi hj)
  have hql : q < (flatL ns zs R).length := by
    rcases Nat.lt_or_ge q (flatL ns zs R).length with h' | h'
    · exact h'
    · rw [List.getElem?_eq_none h'] at hq; cases hq
  have := h4.nn q hql
  unfold atF at this
  rw [List.getD_eq_getElem?_getD, hq] at this
  exact this
theorem OkT.row {R : Nat} {ns : Nat → Nat} {zs : Nat → Nat → Int} {N : Nat} (h : OkT R ns zs N) {i : Nat} (hi : i < R) : 0 ≤ sumN (zs i) (ns i) ∧ sumN (zs i) (ns i) ≤ N := by
  have h1 := sumN_nonneg (h.nn i hi)
  have h2 := sumN_ge (z := fun i => sumN (zs i) (ns i)) (n := R) (fun k hk => sumN_nonneg (h.nn k hk)) hi
  rw [h.tot] at h2
  exact ⟨h1, h2⟩
theorem OkT.cell {R : Nat} {ns : Nat → Nat} {zs : Nat → Nat → Int} {N : Nat} (h : OkT R ns zs N) {i j : Nat} (hi : i < R) (hj : j < ns i) : 0 ≤ zs i j ∧ zs i j ≤ 4096 := by
  have h1 := h.nn i hi j hj
  have h2 := sumN_ge (h.nn i hi) hj
  have h3 := (h.row hi).2
  have h4 := h.n6
  exact ⟨h1, by omega⟩
theorem OkT.part {R : Nat} {ns : Nat → Nat} {zs : Nat → Nat → Int} {N : Nat} (h : OkT R ns zs N) {i k : Nat} (hi : i < R) (hk : k ≤ ns i) : 0 ≤ sumN (zs i) k ∧ sumN (zs i) k ≤ 4096 := by
  have h1 := sumN_nonneg (z := zs i) (n := k) (fun j hj => h.nn i hi j (by omega))
  have h2 := sumN_mono (h.nn i hi) hk
  have h3 := (h.row hi).2
  have h4 := h.n6
  exact ⟨h1, by omega⟩
def colV (zs : Nat → Nat → Int) (k j : Nat) : Int := sumN (fun i => zs i j) k
theorem OkT.col {R : Nat} {ns : Nat → Nat} {zs : Nat → Nat → Int} {N : Nat} (h : OkT R ns zs N) {k j : Nat} (hk : k ≤ R) (hj : j < ns 0) : 0 ≤ colV zs k j ∧ colV zs k j ≤ 4096 := by
  have h1 : 0 ≤ colV zs k j := sumN_nonneg (fun i hi => h.nn i (by omega) j (by rw [h.even i (by omega)]; exact hj))
  have h2 : colV zs k j ≤ sumN (fun i => sumN (zs i) (ns i)) k := sumN_le (fun i hi => sumN_ge (h.nn i (by omega)) (by rw [h.even i (by omega)]; exact hj))
  have h3 := sumN_mono (z := fun i => sumN (zs i) (ns i)) (k := k) (n := R) (fun i hi => sumN_nonneg (h.nn i hi)) hk
  have h4 := h.tot
  have h5 := h.n6
  exact ⟨h1, by omega⟩
end Go.Proofs.YtphecjjblnnjdaaGreatDoor

/- Rows' and columns' sums: the document's and the program's. -/
namespace Go.Proofs.YtphecjjblnnjdaaGreatDoor
open Go.RowKit

def rowSum (ns : Nat → Nat) (zs : Nat → Nat → Int) (i : Nat) : Int := sumN (zs i) (ns i)
/-- A right table's rows, as the walk reads them. -/
theorem tab_rows {w : World} {ad : Option Addr} {R cap : Nat} {vs : Nat → Value} {ns : Nat → Nat} {zs : Nat → Nat → Int} {N : Nat} (h : TabAt w (.slice ad R cap) R vs ns zs) (hk : OkT R ns zs N) : ∃ b o, ad = some ⟨b, o, none⟩ ∧ ∀ W, Below w.heap.size w W → ∀ i, i < R → ∃ b1 o1 cap1, W.cell? ⟨b, o + i, none⟩ = some (.slice (some ⟨b1, o1, none⟩) (ns 0) cap1) ∧ RowAt W b1 o1 (ns 0) (zs i) := by
  rcases h with ⟨_, _, _, h0⟩ | ⟨b, o, c, hv, _, hr⟩
  · have := hk.r0; omega
  · simp only [Value.slice.injEq, true_and] at hv
    obtain ⟨rfl, rfl⟩ := hv
    refine ⟨b, o, rfl, fun W hb i hi => ?_⟩
    obtain ⟨h1, h2⟩ := hr i hi
    have he := hk.even i hi
    have hc := hk.c0
    rcases h2.later hb with ⟨_, _, _, h3⟩ | ⟨b1, o1, c1, hv1, _, hr1⟩
    · omega
    · rw [he] at hv1 hr1
      exact ⟨b1, o1, c1, by rw [hb.cell (cell_lt h1), h1, hv1], hr1⟩

set_option maxRecDepth 100000 in
set_option maxHeartbeats 2000000 in
theorem RowsOf_any (ad : Option Addr) (R cap N : Nat) (vs : Nat → Value) (ns : Nat → Nat) (zs : Nat → Nat → Int) (w : World) (h : TabAt w (.slice ad R cap) R vs ns zs) (hk : OkT R ns zs N) :
    Calls Tryz.prog 38 #[.slice ad R cap] w fun e w' => ∃ v, e = .returned v ∧ NumsAt w' v R (rowSum ns zs) ∧ Below w.heap.size w w' := by
  obtain ⟨b, o, rfl, hr⟩ := tab_rows h hk
  obtain ⟨i0, hi, hz0, hz1, hz2⟩ := info_parts Tryz.infoInt
  have HINF : Hid (Tryz.prog.info? 3 = some i0 ∧ i0.zero = some (.int .i64 0) ∧ i0.size = 1 ∧ i0.bytes = 8) := ⟨hi, hz0, hz1, hz2⟩
  have HR := Hid.mk' hr
  have HK := Hid.mk' hk
  have hR16 := hk.r16
  clear hi hz0 hz1 hz2 hr h hk
  go_enter Tryz.func38, Tryz.ntmps38
  go_wp2_with fail
  go_loopw [3, 4] (fun u i wr => ∃ k : Nat, k ≤ R ∧ i = .int .i64 k ∧ Hid (wr.ownsRow w.heap.size 3 1 u k (numCells (rowSum ns zs) k)) ∧ Hid (Below w.heap.size w wr)) (fun _ i _ => R - (intOf i).toNat)
  case atStart => exact ⟨0, Nat.zero_le _, rfl, ⟨rfl, Or.inl ⟨rfl, rfl⟩⟩, Below.refl _ _⟩
  case round =>
    obtain ⟨k, hk, rfl, HO, HB⟩ := hrel
    rcases Nat.lt_or_ge k R with h1 | h1
    · obtain ⟨b1, o1, cap1, hc, hr1⟩ := HR.out wr HB.out k h1
      have hS := Sum_some b1 o1 cap1 (ns 0) (zs k) wr hr1 (fun j hj => by have := HK.out.part h1 (k := j) (by rw [HK.out.even k h1]; exact hj); omega) (fun j hj => by have := HK.out.cell h1 (j := j) (by rw [HK.out.even k h1]; exact hj); omega) (by have := HK.out.c16; omega)
      have HV : Hid (sumN (zs k) (ns 0) = rowSum ns zs k) := by show _ = sumN (zs k) (ns k); rw [HK.out.even k h1]
      rw [HV.out] at hS
      have hkn : (k : Int) < (R : Int) := by omega
      have hzB := HB.out.size
      clear hr1
      go_wp2_with (first
        | (go_at_call 37; refine hS.mono ?_; rintro e w4 ⟨rfl, hw4⟩; rw [hw4]; clear hw4)
        | (at_builtin; go_must (refine wpList_append_lies _ rfl _ _ _ rfl w.heap.size 3 i0 _ 1 8 Tryz.underlying22 HINF.out.1 HINF.out.2.1 HINF.out.2.2.1 HINF.out.2.2.2 rfl (by omega) u3 _ _ rfl (HO.out.alloc _) ⟨wr.heap.size, 0, none⟩ 1 1 [.int .i64 (rowSum ns zs k)] rfl rfl (one_new _ _ _) (by simp [Value.oneCell']) (by omega) (by unfold maxLen; omega) (by omega) (by simp; omega) _ rfl ?_; intro g' cap2 w3 hown3 hgrow3 hat3 hlt3; have HO3 := Hid.mk' hown3; have HG3 := Hid.mk' hgrow3; clear hown3 hgrow3 hat3)))
      exact ⟨⟨k + 1, h1, by go_num, HO3, below_push HB.out HO.out HG3.out⟩, by simp [intOf]; omega⟩
    · obtain rfl : k = R := by omega
      go_wp2_with fail
      go_ret
      exact ⟨_, rfl, numsAt_own HO.out, HB.out⟩

set_option maxRecDepth 100000 in
set_option maxHeartbeats 2000000 in
theorem ColumnsOf_any (ad : Option Addr) (R cap N : Nat) (vs : Nat → Value) (ns : Nat → Nat) (zs : Nat → Nat → Int) (w : World) (h : TabAt w (.slice ad R cap) R vs ns zs) (hk : OkT R ns zs N) :
    Calls Tryz.prog 39 #[.slice ad R cap] w fun e w' => ∃ v, e = .returned v ∧ NumsAt w' v (ns 0) (colV zs R) ∧ Below w.heap.size w w' := by
  obtain ⟨b, o, rfl, hr⟩ := tab_rows h hk
  obtain ⟨i0, hi, hz0, hz1, hz2⟩ := info_parts Tryz.infoInt
  have HINF : Hid (Tryz.prog.info? 3 = some i0 ∧ i0.zero = some (.int .i64 0) ∧ i0.size = 1 ∧ i0.bytes = 8) := ⟨hi, hz0, hz1, hz2⟩
  have HR := Hid.mk' hr
  have HK := Hid.mk' hk
  have hR16 := hk.r16
  have hR0 := hk.r0
  have hc16 := hk.c16
  clear hi hz0 hz1 hz2 hr h hk
  generalize hC : ns 0 = C at *
  go_enter Tryz.func39, Tryz.ntmps39
  go_wp2_with fail
  go_loopw [3, 4, 5, 6] (fun u i _ _ wr => ∃ j : Nat, j ≤ C ∧ i = .int .i64 j ∧ Hid (wr.ownsRow w.heap.size 3 1 u j (numCells (colV zs R) j)) ∧ Hid (Below w.heap.size w wr)) (fun _ i _ _ _ => C - (intOf i).toNat)
  case atStart => exact ⟨0, Nat.zero_le _, rfl, ⟨rfl, Or.inl ⟨rfl, rfl⟩⟩, Below.refl _ _⟩
  case round =>
    obtain ⟨j, hj, rfl, HO, HB⟩ := hrel
    obtain ⟨b0, o0, cap0, hc0, _⟩ := HR.out wr HB.out 0 hR0
    rw [Nat.add_zero] at hc0
    rcases Nat.lt_or_ge j C with h1 | h1
    · have hjC : (j : Int) < (C : Int) := by omega
      go_wp2_with fail
      obtain ⟨Wr, hWr⟩ : ∃ Wr, Wr = wr := ⟨_, rfl⟩
      rw [← hWr] at HO HB hc0 ⊢
      clear hWr
      go_loopw [5, 6] (fun s i wr => ∃ (q : Nat) (y : Int), q ≤ R ∧ s = .int .i64 y ∧ i = .int .i64 q ∧ wr = Wr ∧ 0 ≤ y ∧ y ≤ 4096 ∧ Hid (y = colV zs q j)) (fun _ i _ => R - (intOf i).toNat)
      case atStart => exact ⟨0, 0, Nat.zero_le _, rfl, rfl, rfl, by omega, by omega, rfl⟩
      case round =>
        obtain ⟨q, y, hq, rfl, rfl, hwr, hy0, hy1, HY⟩ := hrel
        rw [hwr]
        clear hwr
        rcases Nat.lt_or_ge q R with h2 | h2
        · obtain ⟨b1, o1, cap1, hc, hr1⟩ := HR.out Wr HB.out q h2
          have hce := hr1 j h1
          have hqR : (q : Int) < (R : Int) := by omega
          have hb1 := HK.out.col (k := q + 1) (j := j) h2 (by rw [hC]; exact h1)
          have hb2 := HK.out.cell h2 (j := j) (by rw [HK.out.even q h2, hC]; exact h1)
          have HV : Hid (colV zs (q + 1) j = y + zs q j) := by show colV zs q j + zs q j = _; rw [HY.out]
          rw [HV.out] at hb1
          generalize zs q j = x at hce hb1 hb2 HV
          clear hr1
          go_wp2_with fail
          exact ⟨⟨q + 1, y + x, h2, by go_num, by go_num, trivial, by omega, by omega, HV.out.symm⟩, by simp [intOf]; omega⟩
        · obtain rfl : q = R := by omega
          have hzB := HB.out.size
          go_wp2_with (at_builtin; go_must (refine wpList_append_lies _ rfl _ _ _ rfl w.heap.size 3 i0 _ 1 8 Tryz.underlying22 HINF.out.1 HINF.out.2.1 HINF.out.2.2.1 HINF.out.2.2.2 rfl (by omega) u3 _ _ rfl (HO.out.alloc _) ⟨Wr.heap.size, 0, none⟩ 1 1 [.int .i64 y] rfl rfl (one_new _ _ _) (by simp [Value.oneCell']) (by omega) (by unfold maxLen; omega) (by omega) (by simp; omega) _ rfl ?_; intro g' cap2 w3 hown3 hgrow3 hat3 hlt3; have HO3 := Hid.mk' hown3; have HG3 := Hid.mk' hgrow3; clear hown3 hgrow3 hat3))
          refine ⟨⟨j + 1, h1, by go_num, ?_, below_push HB.out HO.out HG3.out⟩, by simp [intOf]; omega⟩
          show World.ownsRow _ _ _ _ _ _ _
          have := HO3.out
          rw [HY.out] at this
          exact this
    · obtain rfl : j = C := by omega
      go_wp2_with fail
      go_ret
      exact ⟨_, rfl, numsAt_own HO.out, HB.out⟩

set_option maxRecDepth 100000 in
set_option maxHeartbeats 2000000 in
theorem rowSums_any (ad : Option Addr) (R cap N : Nat) (vs : Nat → Value) (ns : Nat → Nat) (zs : Nat → Nat → Int) (w : World) (h : TabAt w (.slice ad R cap) R vs ns zs) (hk : OkT R ns zs N) :
    Calls Tryz.prog 83 #[.slice ad R cap] w fun e w' => ∃ g cp, e = .returned (.slice (some ⟨g, 0, none⟩) R cp) ∧ RowAt w' g 0 R (rowSum ns zs) ∧ Below w.heap.size w w' := by
  obtain ⟨b, o, rfl, hr⟩ := tab_rows h hk
  obtain ⟨i0, hi, hz0, hz1, hz2⟩ := info_parts Tryz.infoInt
  have HINF : Hid (Tryz.prog.info? 3 = some i0 ∧ i0.zero = some (.int .i64 0) ∧ i0.size = 1 ∧ i0.bytes = 8) := ⟨hi, hz0, hz1, hz2⟩
  have HR := Hid.mk' hr
  have HK := Hid.mk' hk
  have hR16 := hk.r16
  clear hi hz0 hz1 hz2 hr h hk
  go_enter Tryz.func83, Tryz.ntmps83
  go_wp2_with (at_make; go_must (refine wpList_make_full _ rfl _ _ _ rfl w.heap.size 3 i0 _ 1 Tryz.underlying22 HINF.out.1 HINF.out.2.1 HINF.out.2.2.1 .i64 .i64 _ _ R rfl rfl rfl rfl (by rw [HINF.out.2.2.2]; omega) (by unfold maxLen; omega) (Nat.le_refl _) ?_; intro w2 hown2 hgrow2; have HF2 := Hid.mk' (fills_made hown2 (made_zero R) hgrow2); clear hown2 hgrow2))
  go_loopw [4, 5, 11] (fun _ _ i wr => ∃ k : Nat, k ≤ R ∧ i = .int .i64 k ∧ Hid (Fills w wr w.heap.size R (fun j => if j < k then rowSum ns zs j else 0))) (fun _ _ i _ => R - (intOf i).toNat)
  case atStart => exact ⟨0, Nat.zero_le _, rfl, by simpa using HF2⟩
  case round =>
    obtain ⟨k, hk, rfl, HF⟩ := hrel
    rcases Nat.lt_or_ge k R with h1 | h1
    · obtain ⟨b1, o1, cap1, hc, hr1⟩ := HR.out wr HF.out.below k h1
      have hS := total_some b1 o1 cap1 (ns 0) (zs k) wr hr1 (fun j hj => by have := HK.out.part h1 (k := j) (by rw [HK.out.even k h1]; exact hj); omega) (fun j hj => by have := HK.out.cell h1 (j := j) (by rw [HK.out.even k h1]; exact hj); omega) (by have := HK.out.c16; omega)
      have HV : Hid (sumN (zs k) (ns 0) = rowSum ns zs k) := by show _ = sumN (zs k) (ns k); rw [HK.out.even k h1]
      rw [HV.out] at hS
      have hkn : (k : Int) < (R : Int) := by omega
      have hcF := HF.out.row k h1
      have hfz := HF.out.fz k h1
      rw [Nat.zero_add] at hcF hfz
      have HS := Hid.mk' (HF.out.set h1 (rowSum ns zs k) (f' := fun j => if j < k + 1 then rowSum ns zs j else 0) (fun i hi => by
        by_cases hik : i = k
        · subst hik; rw [if_pos (by omega), if_pos rfl]
        · rw [if_neg hik]
          by_cases hlt : i < k
          · rw [if_pos (by omega), if_pos hlt]
          · rw [if_neg (by omega), if_neg hlt]))
      clear hr1
      go_wp2_with (go_at_call 44; refine hS.mono ?_; rintro e w4 ⟨rfl, hw4⟩; rw [hw4]; clear hw4)
      exact ⟨⟨k + 1, h1, by go_num, HS⟩, by simp [intOf]; omega⟩
    · obtain rfl : k = R := by omega
      go_wp2_with fail
      go_ret
      refine ⟨_, _, rfl, fun i hi => ?_, HF.out.below⟩
      have := HF.out.row i hi
      rw [if_pos hi] at this
      exact this
end Go.Proofs.YtphecjjblnnjdaaGreatDoor

/- dist.columnSums, Rows, Columns. -/
namespace Go.Proofs.YtphecjjblnnjdaaGreatDoor
open Go.RowKit

theorem tabErr_okT {R : Nat} {ns : Nat → Nat} {zs : Nat → Nat → Int} (h : tabErr R ns zs = 0) : ∃ N, OkT R ns zs N ∧ sumN (atF (flatL ns zs R)) (flatL ns zs R).length = N := by
  unfold tabErr at h
  by_cases h1 : 16 < R
  · rw [if_pos h1] at h; cases h
  rw [if_neg h1] at h
  cases h2 : longB ns R with
  | true => rw [h2, if_pos rfl] at h; cases h
  | false =>
    rw [h2, if_neg (by simp)] at h
    cases h3 : unevenB ns R with
    | true => rw [h3, if_pos rfl] at h; cases h
    | false =>
      rw [h3, if_neg (by simp)] at h
      exact okT_of (by omega) h2 h3 (listErr_ok h)

set_option maxRecDepth 100000 in
set_option maxHeartbeats 4000000 in
theorem columnSums_any (ad : Option Addr) (R cap N : Nat) (vs : Nat → Value) (ns : Nat → Nat) (zs : Nat → Nat → Int) (w : World) (h : TabAt w (.slice ad R cap) R vs ns zs) (hk : OkT R ns zs N) :
    Calls Tryz.prog 84 #[.slice ad R cap] w fun e w' => ∃ g cp, e = .returned (.slice (some ⟨g, 0, none⟩) (ns 0) cp) ∧ RowAt w' g 0 (ns 0) (colV zs R) ∧ Below w.heap.size w w' := by
  obtain ⟨b, o, rfl, hr⟩ := tab_rows h hk
  obtain ⟨i0, hi, hz0, hz1, hz2⟩ := info_parts Tryz.infoInt
  have HINF : Hid (Tryz.prog.info? 3 = some i0 ∧ i0.zero = some (.int .i64 0) ∧ i0.size = 1 ∧ i0.bytes = 8) := ⟨hi, hz0, hz1, hz2⟩
  have HR := Hid.mk' hr
  have HK := Hid.mk' hk
  have hR16 := hk.r16
  have hR0 := hk.r0
  have hc16 := hk.c16
  clear hi hz0 hz1 hz2 hr h hk
  generalize hC : ns 0 = C at *
  obtain ⟨b0, o0, cap0, hc0, _⟩ := HR.out w (Below.refl _ _) 0 hR0
  rw [Nat.add_zero] at hc0
  go_enter Tryz.func84, Tryz.ntmps84
  go_wp2_with (at_make; go_must (refine wpList_make_full _ rfl _ _ _ rfl w.heap.size 3 i0 _ 1 Tryz.underlying22 HINF.out.1 HINF.out.2.1 HINF.out.2.2.1 .i64 .i64 _ _ C rfl rfl rfl rfl (by rw [HINF.out.2.2.2]; omega) (by unfold maxLen; omega) (Nat.le_refl _) ?_; intro w2 hown2 hgrow2; have HF2 := Hid.mk' (fills_made hown2 (made_zero C) hgrow2); clear hown2 hgrow2))
  go_loopw [5, 6, 7, 15] (fun _ _ _ i wr => ∃ k : Nat, k ≤ R ∧ i = .int .i64 k ∧ Hid (Fills w wr w.heap.size C (colV zs k))) (fun _ _ _ i _ => R - (intOf i).toNat)
  case atStart => exact ⟨0, Nat.zero_le _, rfl, HF2⟩
  case round =>
    obtain ⟨k, hk, rfl, HF⟩ := hrel
    rcases Nat.lt_or_ge k R with h1 | h1
    · obtain ⟨b1, o1, cap1, hc, hr1⟩ := HR.out wr HF.out.below k h1
      have HR1 : Hid (∀ W, Below w.heap.size w W → ∃ b2 o2 cap2, W.cell? ⟨b, o + k, none⟩ = some (.slice (some ⟨b2, o2, none⟩) C cap2) ∧ RowAt W b2 o2 C (zs k)) := fun W hb => HR.out W hb k h1
      have hbk : b1 < w.heap.size := by
        obtain ⟨b2, o2, cap2, h2, h3⟩ := HR.out w (Below.refl _ _) k h1
        rw [HF.out.below.cell (cell_lt h2), h2] at hc
        simp only [Option.some.injEq, Value.slice.injEq, Addr.mk.injEq, and_true, true_and] at hc
        obtain ⟨⟨rfl, rfl⟩, rfl⟩ := hc
        have := h3 0 (by have := HK.out.c0; omega)
        exact cell_lt this
      have HR2 := Hid.mk' hr1
      have hkn : (k : Int) < (R : Int) := by omega
      go_wp2_with fail
      obtain ⟨Wr, hWr⟩ : ∃ Wr, Wr = wr := ⟨_, rfl⟩
      rw [← hWr] at HF hc HR2 ⊢
      clear hWr hr1 hc HR1
      go_loopw [6, 7, 21] (fun _ _ i wr => ∃ j : Nat, j ≤ C ∧ i = .int .i64 j ∧ Hid (Fills w wr w.heap.size C (fun c => if c < j then colV zs (k + 1) c else colV zs k c)) ∧ Hid (RowAt wr b1 o1 C (zs k))) (fun _ _ i _ => C - (intOf i).toNat)
      case atStart => exact ⟨0, Nat.zero_le _, rfl, by simpa using HF, HR2⟩
      case round =>
        obtain ⟨j, hj, rfl, HG, HW⟩ := hrel
        rcases Nat.lt_or_ge j C with h2 | h2
        · have hce := HW.out j h2
          have hjC : (j : Int) < (C : Int) := by omega
          have hcF := HG.out.row j h2
          have hfz := HG.out.fz j h2
          rw [Nat.zero_add] at hcF hfz
          rw [if_neg (by omega)] at hcF
          have hb1 := HK.out.col (k := k) (j := j) hk (by rw [hC]; exact h2)
          have hb2 := HK.out.cell h1 (j := j) (by rw [HK.out.even k h1, hC]; exact h2)
          have HV : Hid (colV zs (k + 1) j = colV zs k j + zs k j) := rfl
          have HS := Hid.mk' (HG.out.set h2 (colV zs k j + zs k j) (f' := fun c => if c < j + 1 then colV zs (k + 1) c else colV zs k c) (fun i hi => by
            by_cases hik : i = j
            · subst hik; rw [if_pos (by omega), if_pos rfl, HV.out]
            · rw [if_neg hik]
              by_cases hlt : i < j
              · rw [if_pos (by omega), if_pos hlt]
              · rw [if_neg (by omega), if_neg hlt]))
          have HW1 : Hid (∀ x : Int, RowAt (wr.setCell ⟨w.heap.size, j, none⟩ (.int .i64 x)) b1 o1 C (zs k)) := fun x i hi => by
            rw [World.cell?_setCell_other _ _ _ _ (fun e => by have := congrArg Addr.block e; simp at this; omega)]
            exact HW.out i hi
          generalize colV zs k j = y at *
          generalize zs k j = x at *
          go_wp2_with fail
          exact ⟨⟨j + 1, h2, by go_num, HS, HW1.out _⟩, by simp [intOf]; omega⟩
        · obtain rfl : j = C := by omega
          have HF1 : Hid (Fills w wr w.heap.size j (colV zs (k + 1))) := ⟨fun i hi => by have := HG.out.row i hi; rw [if_pos hi] at this; exact this, HG.out.fz, HG.out.below, HG.out.hg⟩
          go_wp2_with fail
          exact ⟨⟨k + 1, h1, by go_num, HF1⟩, by simp [intOf]; omega⟩
    · obtain rfl : k = R := by omega
      go_wp2_with fail
      go_ret
      exact ⟨_, _, rfl, HF.out.row, HF.out.below⟩
end Go.Proofs.YtphecjjblnnjdaaGreatDoor

/- Cells beside a map. -/
namespace Go.Proofs.YtphecjjblnnjdaaGreatDoor
open Go.RowKit Go.Maps

/-- A cell beside a map's block. -/
theorem cell_side {w w' : World} {mb nn B o : Nat} {v : Value} {D : DataW Unit} {k : TypeId} {R : Value → Option (DataW Unit × List MemPlace)} (hm : w.ownsMap Tryz.prog k R mb nn D) (hg : w.grownBy w' (some mb)) (hc : w.cell? ⟨B, o, none⟩ = some v) : w'.cell? ⟨B, o, none⟩ = some v := by
  refine cell_beside hg hc ?_
  rintro rfl
  rw [map_no_cell hm] at hc
  cases hc

end Go.Proofs.YtphecjjblnnjdaaGreatDoor

/- dist.Mutual: what it puts. -/
namespace Go.Proofs.YtphecjjblnnjdaaGreatDoor
open Go.RowKit Go.Maps

/-- What a cell puts. -/
def mutV (z : Nat → Int) (r : Int) (cv : Nat → Int) (N : Nat) (x : Int) (j : Nat) : Int := z j * multI x (z j).toNat + z j * multI x N + -(z j) * multI x r.toNat + -(z j) * multI x (cv j).toNat
theorem mutV_le {z cv : Nat → Int} {r : Int} {N j : Nat} (x : Int) (hz : 0 ≤ z j ∧ z j ≤ 4096) (hr : 0 ≤ r ∧ r ≤ 4096) (hc : 0 ≤ cv j ∧ cv j ≤ 4096) (hN : N ≤ 4096) : -400000 ≤ mutV z r cv N x j ∧ mutV z r cv N x j ≤ 400000 := by
  unfold mutV
  have h1 := mul_weight (t := z j) (by omega) (multI_small x (n := (z j).toNat) (by omega))
  have h2 := mul_weight (t := z j) (by omega) (multI_small x (n := N) (by omega))
  have h3 := mul_weight (t := -(z j)) (by omega) (multI_small x (n := r.toNat) (by omega))
  have h4 := mul_weight (t := -(z j)) (by omega) (multI_small x (n := (cv j).toNat) (by omega))
  omega
/-- A table's numbers with what its rows and columns hold together. -/
structure OkM (R C N : Nat) (zs : Nat → Nat → Int) (rv cv : Nat → Int) : Prop where
  r16 : R ≤ 16
  c16 : C ≤ 16
  n1 : 1 ≤ N
  n6 : N ≤ 4096
  z : ∀ i, i < R → ∀ j, j < C → 0 ≤ zs i j ∧ zs i j ≤ 4096
  r : ∀ i, i < R → 0 ≤ rv i ∧ rv i ≤ 4096
  c : ∀ j, j < C → 0 ≤ cv j ∧ cv j ≤ 4096
  zr : ∀ i, i < R → ∀ j, j < C → zs i j ≤ rv i ∧ zs i j ≤ cv j
theorem mutR_le {R C N : Nat} {zs : Nat → Nat → Int} {rv cv : Nat → Int} (h : OkM R C N zs rv cv) (x : Int) {i m : Nat} (hi : i < R) (hm : m ≤ C) : -6400000 ≤ sumN (mutV (zs i) (rv i) cv N x) m ∧ sumN (mutV (zs i) (rv i) cv N x) m ≤ 6400000 := by
  have h3 := sumN_bound (f := mutV (zs i) (rv i) cv N x) (B := 400000) (n := m) (fun j hj => mutV_le x (h.z i hi j (by omega)) (h.r i hi) (h.c j (by omega)) h.n6)
  have h5 := h.c16
  have : (m : Int) * 400000 ≤ 6400000 := by omega
  omega
theorem mutT_le {R C N : Nat} {zs : Nat → Nat → Int} {rv cv : Nat → Int} (h : OkM R C N zs rv cv) (x : Int) {k : Nat} (hk : k ≤ R) : -102400000 ≤ sumN (fun i => sumN (mutV (zs i) (rv i) cv N x) C) k ∧ sumN (fun i => sumN (mutV (zs i) (rv i) cv N x) C) k ≤ 102400000 := by
  have h3 := sumN_bound (f := fun i => sumN (mutV (zs i) (rv i) cv N x) C) (B := 6400000) (n := k) (fun i hi => mutR_le h x (by omega) (Nat.le_refl _))
  have h5 := h.r16
  have : (k : Int) * 6400000 ≤ 102400000 := by omega
  omega

set_option maxRecDepth 100000 in
set_option maxHeartbeats 8000000 in
theorem Mutual_parts (den : Int) (mb Bt Ba Br Bc b o cap gr cr gc cc R C N : Nat) (zs : Nat → Nat → Int) (rv cv : Nat → Int) (w : World) (hown : w.ownsMap Tryz.prog 3 (plainElem (H := Unit) Tryz.prog 3) mb 0 (mapOf []))
    (ct : w.cell? ⟨Bt, 0, none⟩ = some (.slice (some ⟨b, o, none⟩) R cap)) (ca : w.cell? ⟨Ba, 0, none⟩ = some (.int .i64 N)) (cR : w.cell? ⟨Br, 0, none⟩ = some (.slice (some ⟨gr, 0, none⟩) R cr)) (cC : w.cell? ⟨Bc, 0, none⟩ = some (.slice (some ⟨gc, 0, none⟩) C cc))
    (hrows : ∀ i, i < R → ∃ b1 o1 cap1, w.cell? ⟨b, o + i, none⟩ = some (.slice (some ⟨b1, o1, none⟩) C cap1) ∧ RowAt w b1 o1 C (zs i)) (hr : RowAt w gr 0 R rv) (hc : RowAt w gc 0 C cv) (hk : OkM R C N zs rv cv) :
    Calls Tryz.prog 86 #[putV den mb, .pointer (some ⟨Bt, 0, none⟩), .pointer (some ⟨Ba, 0, none⟩), .pointer (some ⟨Br, 0, none⟩), .pointer (some ⟨Bc, 0, none⟩)] w fun e w' => e = .returned (.tuple #[]) ∧ ∃ l nn, Puts w w' mb (fun x => sumN (fun i => sumN (mutV (zs i) (rv i) cv N x) C) R) (64 * R) [] 0 l nn := by
  have HP0 : Hid (Puts w w mb (fun x => sumN (fun i => sumN (mutV (zs i) (rv i) cv N x) C) 0) (64 * 0) [] 0 [] 0) := ⟨hown, List.Pairwise.nil, (fun x => by simp [sumN]), (fun e he => by cases he), by omega, by simp, grown_refl _ _⟩
  have HTAB : Hid (∀ (wr : World), w.grownBy wr (some mb) → ∀ i, i < R → ∃ b1 o1 cap1, wr.cell? ⟨b, o + i, none⟩ = some (.slice (some ⟨b1, o1, none⟩) C cap1) ∧ ∀ wn : World, w.grownBy wn (some mb) → RowAt wn b1 o1 C (zs i)) := fun wr hg i hi => by
    obtain ⟨b1, o1, cap1, h1, h2⟩ := hrows i hi
    exact ⟨b1, o1, cap1, cell_side hown hg h1, fun wn hn => h2.beside hown hn⟩
  have HROW := Hid.mk' (fun (wr : World) (hg : w.grownBy wr (some mb)) => And.intro (cell_side hown hg ca) (And.intro (cell_side hown hg cR) (And.intro (cell_side hown hg cC) (And.intro (hr.beside hown hg) (hc.beside hown hg)))))
  have HK := Hid.mk' hk
  have hR16 := hk.r16
  have hC16 := hk.c16
  have hN1 := hk.n1
  have hN6 := hk.n6
  clear hown hrows hr hc hk ca cR cC
  unfold putV
  go_enter Tryz.func86, Tryz.ntmps86
  go_wp2_with fail
  go_loopw [6, 7, 8, 9, 12] (fun _ _ _ _ i wr => ∃ (k nn : Nat) (l : List (Int × Int)), k ≤ R ∧ i = .int .i64 k ∧ Hid (Puts w wr mb (fun x => sumN (fun i => sumN (mutV (zs i) (rv i) cv N x) C) k) (64 * k) [] 0 l nn)) (fun _ _ _ _ i _ => R - (intOf i).toNat)
  case atStart => exact ⟨0, 0, [], Nat.zero_le _, rfl, HP0⟩
  case round =>
    clear HP0 ct
    obtain ⟨k, nn0, l0, hk, rfl, HP⟩ := hrel
    rcases Nat.lt_or_ge k R with h1 | h1
    · obtain ⟨b1, o1, cap1, hc, hr1⟩ := HTAB.out wr HP.out.grow k h1
      have HR1 := Hid.mk' hr1
      have hkn : (k : Int) < (R : Int) := by omega
      have hk0 : (0 : Int) ≤ (k : Int) := by omega
      have HPI : Hid (Puts w wr mb (fun x => sumN (fun i => sumN (mutV (zs i) (rv i) cv N x) C) k + sumN (mutV (zs k) (rv k) cv N x) 0) (64 * k + 4 * 0) [] 0 l0 nn0) := HP.out.congr (by omega) (fun x => by simp [sumN])
      obtain ⟨rr, hrr⟩ := Int.eq_ofNat_of_zero_le (HK.out.r k h1).1
      have hrr6 : rr ≤ 4096 := by have := (HK.out.r k h1).2; omega
      have HRR := Hid.mk' hrr
      have HCR : Hid (∀ W, w.grownBy W (some mb) → W.cell? ⟨gr, 0 + k, none⟩ = some (.int .i64 (rr : Int))) := fun W hg => by rw [← hrr]; exact (HROW.out W hg).2.2.2.1 k h1
      clear hr1 hrr HP
      go_wp2_with fail
      clear hc
      go_loopw [8, 9, 19] (fun _ _ i wr => ∃ (j nn : Nat) (l : List (Int × Int)), j ≤ C ∧ i = .int .i64 j ∧ Hid (Puts w wr mb (fun x => sumN (fun i => sumN (mutV (zs i) (rv i) cv N x) C) k + sumN (mutV (zs k) (rv k) cv N x) j) (64 * k + 4 * j) [] 0 l nn)) (fun _ _ i _ => C - (intOf i).toNat)
      case atStart => exact ⟨0, nn0, l0, Nat.zero_le _, rfl, HPI⟩
      case round =>
        clear HPI
        obtain ⟨j, nn, l, hj, rfl, HP⟩ := hrel
        rcases Nat.lt_or_ge j C with h2 | h2
        · have hcz := HR1.out _ HP.out.grow j h2
          have hjn : (j : Int) < (C : Int) := by omega
          have hj0 : (0 : Int) ≤ (j : Int) := by omega
          have hzk := HK.out.z k h1 j h2
          have hcj := HK.out.c j h2
          have hzr := HK.out.zr k h1 j h2
          rw [HRR.out] at hzr
          have HV : Hid (∀ x, sumN (mutV (zs k) (rv k) cv N x) (j + 1) = sumN (mutV (zs k) (rv k) cv N x) j + (zs k j * multI x (zs k j).toNat + (zs k j * multI x N + (-(zs k j) * multI x (rv k).toNat + -(zs k j) * multI x (cv j).toNat)))) := fun x => by
            show sumN (mutV (zs k) (rv k) cv N x) j + mutV (zs k) (rv k) cv N x j = _
            unfold mutV
            omega
          rw [HRR.out] at HV
          have HBD : Hid (∀ x, -120000000 ≤ atL l x ∧ atL l x ≤ 120000000) := fun x => by
            rw [HP.out.val]
            have h3 := mutT_le HK.out x (k := k) (by omega)
            have h4 := mutR_le HK.out x h1 (m := j) (by omega)
            simp only [atL]
            omega
          obtain ⟨y, hy⟩ := Int.eq_ofNat_of_zero_le hzk.1
          obtain ⟨u, hu⟩ := Int.eq_ofNat_of_zero_le hcj.1
          rw [hy] at hcz hzk HV hzr
          rw [hu] at hcj HV hzr
          rw [HRR.out] at HP
          simp only [Int.toNat_natCast] at HV
          have HCU : Hid (∀ W, w.grownBy W (some mb) → W.cell? ⟨gc, 0 + j, none⟩ = some (.int .i64 (u : Int))) := fun W hg => by rw [← hu]; exact (HROW.out W hg).2.2.2.2 j h2
          have hy6 : y ≤ 4096 := by have := hzk.2; omega
          have hu6 : u ≤ 4096 := by have := hcj.2; omega
          have hyr : y ≠ 0 → 1 ≤ rr := fun h => by have := hzr.1; omega
          have hyu : y ≠ 0 → 1 ≤ u := fun h => by have := hzr.2; omega
          have hnn1 : nn ≤ 30000 := by have := HP.out.cnt; omega
          have MW := Hid.mk' (fun (x : Int) (m : Nat) (hm : m ≤ 4096) => mul_weight (t := (y : Int)) (by omega) (multI_small x (n := m) (by omega)))
          have MN := Hid.mk' (fun (x : Int) (m : Nat) (hm : m ≤ 4096) => mul_weight (t := -(y : Int)) (by omega) (multI_small x (n := m) (by omega)))
          clear hy hu hzk hcj hzr
          have HP1 := Hid.mk' (Put_by den (y : Int) mb y nn l wr HP.out.own HP.out.rise HP.out.keys (fun x => by have := HBD.out x; omega) (by omega) (fun h => by omega) (by omega) (by omega))
          go_wp2_with fail
          refine HP1.out.mono ?_
          clear HP1 hcz
          rintro e w2 ⟨rfl, l2, nn2, hp2⟩
          have hg2 := grown_two HP.out.grow hp2.grow
          have ca2 := (HROW.out _ hg2).1
          have B2 : Hid (∀ x, -120100000 ≤ atL l2 x ∧ atL l2 x ≤ 120100000) := fun x => by rw [hp2.val]; have h2 := HBD.out x; have h3 := MW.out x y hy6; omega
          have hn2 : nn2 ≤ 30020 := by have := hp2.cnt; omega
          have HP2 := Hid.mk' (Put_by den (y : Int) mb N nn2 l2 w2 hp2.own hp2.rise hp2.keys (fun x => by have := B2.out x; omega) (by omega) (fun _ => hN1) (by omega) (by omega))
          have HQ2 := Hid.mk' (HP.out.trans hp2)
          clear hp2 hg2
          go_wp2_with fail
          refine HP2.out.mono ?_
          clear HP2 ca2
          rintro e w3 ⟨rfl, l3, nn3, hp3⟩
          have hg3 := grown_two HQ2.out.grow hp3.grow
          have cr3 := (HROW.out _ hg3).2.1
          have cu3 := HCR.out _ hg3
          rw [Nat.zero_add] at cu3
          have B3 : Hid (∀ x, -120200000 ≤ atL l3 x ∧ atL l3 x ≤ 120200000) := fun x => by rw [hp3.val]; have h2 := B2.out x; have h3 := MW.out x N hN6; omega
          have hn3 : nn3 ≤ 30040 := by have := hp3.cnt; omega
          have HP3 := Hid.mk' (Put_by den (-(y : Int)) mb rr nn3 l3 w3 hp3.own hp3.rise hp3.keys (fun x => by have := B3.out x; omega) (by omega) (fun h => hyr (by omega)) (by omega) (by omega))
          have HQ3 := Hid.mk' (HQ2.out.trans hp3)
          clear hp3 hg3 HQ2
          go_wp2_with fail
          refine HP3.out.mono ?_
          clear HP3 cr3 cu3
          rintro e w4 ⟨rfl, l4, nn4, hp4⟩
          have hg4 := grown_two HQ3.out.grow hp4.grow
          have cc4 := (HROW.out _ hg4).2.2.1
          have cu4 := HCU.out _ hg4
          rw [Nat.zero_add] at cu4
          have B4 : Hid (∀ x, -120300000 ≤ atL l4 x ∧ atL l4 x ≤ 120300000) := fun x => by rw [hp4.val]; have h2 := B3.out x; have h3 := MN.out x rr hrr6; omega
          have hn4 : nn4 ≤ 30060 := by have := hp4.cnt; omega
          have HP4 := Hid.mk' (Put_by den (-(y : Int)) mb u nn4 l4 w4 hp4.own hp4.rise hp4.keys (fun x => by have := B4.out x; omega) (by omega) (fun h => hyu (by omega)) (by omega) (by omega))
          have HQ4 := Hid.mk' (HQ3.out.trans hp4)
          clear hp4 hg4 HQ3
          go_wp2_with fail
          refine HP4.out.mono ?_
          clear HP4 cc4 cu4
          rintro e w5 ⟨rfl, l5, nn5, hp5⟩
          have HQ5 := Hid.mk' ((HQ4.out.trans hp5).congr (d := 64 * k + 4 * (j + 1)) (by omega) (g := fun x => sumN (fun i => sumN (mutV (zs i) (rv i) cv N x) C) k + sumN (mutV (zs k) (rv k) cv N x) (j + 1)) (fun x => by rw [HRR.out, HV.out x]; omega))
          clear hp5 HQ4
          go_wp2_with fail
          exact ⟨⟨j + 1, nn5, l5, h2, by go_num, HQ5⟩, by simp [intOf]; omega⟩
        · obtain rfl : j = C := by omega
          have HQ := Hid.mk' (HP.out.congr (d := 64 * (k + 1)) (by omega) (g := fun x => sumN (fun i => sumN (mutV (zs i) (rv i) cv N x) j) (k + 1)) (fun x => rfl))
          clear HP
          go_wp2_with fail
          exact ⟨⟨k + 1, nn, l, h1, by go_num, HQ⟩, by simp [intOf]; omega⟩
    · obtain rfl : k = R := by omega
      go_wp2_with fail
      go_end0
      exact ⟨rfl, l0, nn0, HP.out⟩
end Go.Proofs.YtphecjjblnnjdaaGreatDoor
