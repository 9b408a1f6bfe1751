/- The document's LogSum. -/
import Derived.Test.YtkcpmfilencekabGreatDoorWLog
import Derived.Test.YtkcpmfilencekabGreatDoorWToldW
import Derived.Test.YtkcpmfilencekabGreatDoorIsLogW
import Derived.Test.YtkcpmfilencekabGreatDoorAddAny
import Derived.Test.YtkcpmfilencekabGreatDoorSame
namespace Go.Proofs.YtkcpmfilencekabGreatDoor
open Go.RowKit

def FitsL (M G : Nat) (l : List (Int × Int)) : Prop := M / G ≤ 1000000 ∧ ∀ e ∈ l, (e.2.tdiv (G : Int)).natAbs ≤ 1099511627776
theorem fits_iff (M G : Nat) (L : List Ent) : FitsW M G L ↔ FitsL M G (absL L) := by
  unfold FitsW FitsL
  constructor
  · rintro ⟨h1, h2⟩
    refine ⟨h1, fun e he => ?_⟩
    obtain ⟨f, hf, rfl⟩ := List.mem_map.1 he
    exact h2 f hf
  · rintro ⟨h1, h2⟩
    exact ⟨h1, fun e he => h2 _ (absL_mem he)⟩
theorem zs_abs (L : List Ent) : zsOf L = (absL L).map Prod.snd := by unfold zsOf absL; rw [List.map_map]; rfl
theorem bool_of (P : Prop) : ∃ b : Bool, b = true ↔ P := by
  by_cases h : P
  · exact ⟨true, ⟨fun _ => h, fun _ => rfl⟩⟩
  · exact ⟨false, ⟨(fun e => by cases e), (fun e => absurd e h)⟩⟩
/-- What is told of a sum l over M: in form, or the bound. -/
def ToldOf (M : Nat) (l : List (Int × Int)) (w : World) (dn : Int) (v : Value) (code : Int) : Prop := (FitsL M (gList M (l.map Prod.snd)) l ∧ dn = ((M / gList M (l.map Prod.snd) : Nat) : Int) ∧ code = 0 ∧ ListAt w v (overL (gList M (l.map Prod.snd)) l)) ∨ (¬ FitsL M (gList M (l.map Prod.snd)) l ∧ dn = 0 ∧ v = .slice none 0 0 ∧ code = 2)

set_option maxRecDepth 100000 in
set_option maxHeartbeats 4000000 in
theorem LogSum_any (M da db xd yd m1 m2 : Nat) (xn yn : Int) (xv yv : Value) (ad1 ad2 : Option Addr) (n1 n2 cap1 cap2 : Nat) (p1 c1 p2 c2 : Nat → Int) (k0 : Nat) (w : World) (hl1 : LogAt w (.slice ad1 n1 cap1) n1 p1 c1) (hl2 : LogAt w (.slice ad2 n2 cap2) n2 p2 c2) (hx : RatioAt w xv xn xd) (hy : RatioAt w yv yn yd) (hM1 : M = da * xd * m1) (hM2 : M = db * yd * m2) (hM0 : 0 < M) (hn1 : n1 ≤ 30) (hn2 : n2 ≤ 30)
    (hpc1 : ∀ i, i < n1 → 0 ≤ p1 i ∧ -1099511627776 ≤ c1 i ∧ c1 i ≤ 1099511627776) (hpc2 : ∀ i, i < n2 → 0 ≤ p2 i ∧ -1099511627776 ≤ c2 i ∧ c2 i ≤ 1099511627776) (hda : da ≤ 1000000) (hdb : db ≤ 1000000) (hxn : xn.natAbs < 1000000 ^ k0) (hyn : yn.natAbs < 1000000 ^ k0)
    (hF1 : ∀ i, i < n1 → (xn * m1 * c1 i).natAbs < 1000000 ^ k0) (hF2 : ∀ i, i < n2 → (yn * m2 * c2 i).natAbs < 1000000 ^ k0) (hb1 : ∀ x k, k ≤ n1 → (xn * m1 * sumAt p1 c1 x k).natAbs < 1000000 ^ k0) (hb2 : ∀ x k, k ≤ n2 → (xn * m1 * sumAt p1 c1 x n1 + yn * m2 * sumAt p2 c2 x k).natAbs < 1000000 ^ k0) (hbM : M < 1000000 ^ k0) (hk3 : 3 ≤ k0) (hk0 : k0 ≤ 1000) :
    Calls Tryz.prog 9 #[.agg #[.int .i64 da, .slice ad1 n1 cap1], xv, .agg #[.int .i64 db, .slice ad2 n2 cap2], yv] w fun e w' => ∃ (l : List (Int × Int)) (dn : Int) (ad : Option Addr) (len cap : Nat) (code : Int), e = .returned (.tuple #[.agg #[.int .i64 dn, .slice ad len cap], .int .i64 code]) ∧ Rising l ∧ (∀ x, atL l x = xn * m1 * sumAt p1 c1 x n1 + yn * m2 * sumAt p2 c2 x n2) ∧ l.length ≤ n1 + n2 ∧ ToldOf M l w' dn (.slice ad len cap) code ∧ Below w.heap.size w w' := by
  obtain ⟨s, ad, l, cap, ad', l', cap', rfl⟩ := hx.parts
  obtain ⟨t, bd, r, bap, bd', r', bap', rfl⟩ := hy.parts
  obtain ⟨W0, hW0⟩ : ∃ W0, W0 = ((((w.alloc (.cells #[.int .i64 da, .slice ad1 n1 cap1] 24)).alloc (.cells #[.bool s, .slice ad l cap, .slice ad' l' cap'] 35)).alloc (.cells #[.int .i64 db, .slice ad2 n2 cap2] 24)).alloc (.cells #[.bool t, .slice bd r bap, .slice bd' r' bap'] 35)).alloc (.cells #[.int .i64 0, .slice none 0 0] 24) := ⟨_, rfl⟩
  have hz0 : W0.heap.size = w.heap.size + 1 + 1 + 1 + 1 + 1 := by rw [hW0]; simp
  have hb0 : Below w.heap.size w W0 := by rw [hW0]; exact more_below (more_below (more_below (more_below (new_below _ _) _) _) _) _
  have hcell : ∀ W, Below W0.heap.size W0 W → ((W.cell? ⟨w.heap.size, 0, none⟩ = some (.int .i64 da) ∧ W.cell? ⟨w.heap.size, 1, none⟩ = some (.slice ad1 n1 cap1)) ∧ W.cell? ⟨w.heap.size + 1, 0, none⟩ = some (.bool s) ∧ W.cell? ⟨w.heap.size + 1, 1, none⟩ = some (.slice ad l cap) ∧ W.cell? ⟨w.heap.size + 1, 2, none⟩ = some (.slice ad' l' cap')) ∧
      ((W.cell? ⟨w.heap.size + 1 + 1, 0, none⟩ = some (.int .i64 db) ∧ W.cell? ⟨w.heap.size + 1 + 1, 1, none⟩ = some (.slice ad2 n2 cap2)) ∧ W.cell? ⟨w.heap.size + 1 + 1 + 1, 0, none⟩ = some (.bool t) ∧ W.cell? ⟨w.heap.size + 1 + 1 + 1, 1, none⟩ = some (.slice bd r bap) ∧ W.cell? ⟨w.heap.size + 1 + 1 + 1, 2, none⟩ = some (.slice bd' r' bap')) ∧
      (W.cell? ⟨w.heap.size + 1 + 1 + 1 + 1, 0, none⟩ = some (.int .i64 0) ∧ W.cell? ⟨w.heap.size + 1 + 1 + 1 + 1, 1, none⟩ = some (.slice none 0 0) ∧ W.frozen? ⟨w.heap.size + 1 + 1 + 1 + 1, 0, none⟩ = false ∧ W.frozen? ⟨w.heap.size + 1 + 1 + 1 + 1, 1, none⟩ = false) := fun W hbl => by
    rw [hW0] at hbl
    obtain ⟨q0, q1, _, _⟩ := res_past (below_chain (more_below (more_below (more_below (new_below (w.alloc (.cells #[.int .i64 da, .slice ad1 n1 cap1] 24)) (.cells #[.bool s, .slice ad l cap, .slice ad' l' cap'] 35)) (.cells #[.int .i64 db, .slice ad2 n2 cap2] 24)) (.cells #[.bool t, .slice bd r bap, .slice bd' r' bap'] 35)) (.cells #[.int .i64 0, .slice none 0 0] 24)) hbl)
    have q2 := three_new_past (below_chain (more_below (more_below (new_below ((w.alloc (.cells #[.int .i64 da, .slice ad1 n1 cap1] 24)).alloc (.cells #[.bool s, .slice ad l cap, .slice ad' l' cap'] 35)) (.cells #[.int .i64 db, .slice ad2 n2 cap2] 24)) (.cells #[.bool t, .slice bd r bap, .slice bd' r' bap'] 35)) (.cells #[.int .i64 0, .slice none 0 0] 24)) hbl)
    obtain ⟨q3, q4, _, _⟩ := res_past (below_chain (more_below (new_below (((w.alloc (.cells #[.int .i64 da, .slice ad1 n1 cap1] 24)).alloc (.cells #[.bool s, .slice ad l cap, .slice ad' l' cap'] 35)).alloc (.cells #[.int .i64 db, .slice ad2 n2 cap2] 24)) (.cells #[.bool t, .slice bd r bap, .slice bd' r' bap'] 35)) (.cells #[.int .i64 0, .slice none 0 0] 24)) hbl)
    have q5 := three_new_past (below_chain (new_below ((((w.alloc (.cells #[.int .i64 da, .slice ad1 n1 cap1] 24)).alloc (.cells #[.bool s, .slice ad l cap, .slice ad' l' cap'] 35)).alloc (.cells #[.int .i64 db, .slice ad2 n2 cap2] 24)).alloc (.cells #[.bool t, .slice bd r bap, .slice bd' r' bap'] 35)) (.cells #[.int .i64 0, .slice none 0 0] 24)) hbl)
    have q6 := res_past hbl
    simp only [World.size_alloc] at q2 q3 q4 q5 q6
    exact ⟨⟨⟨q0, q1⟩, q2⟩, ⟨⟨q3, q4⟩, q5⟩, q6⟩
  have hwd : WideAt (w.heap.size + 1 + 1 + 1 + 1 + 1) M (W0.alloc (.cells #[.slice none 0 0, .slice none 0 0] 61)) (w.heap.size + 1 + 1 + 1 + 1 + 1) (.slice none 0 0) (.slice none 0 0) [] :=
    ⟨Nat.le_refl _, by rw [← hz0]; simp, by rw [← hz0]; simp, by rw [← hz0]; simp, by rw [← hz0]; simp, World.ownsRow_nil _ _ _ _, World.ownsRow_nil _ _ _ _, (fun e he => by cases he), fun _ => ⟨rfl, rfl⟩⟩
  have hb1' := below_chain hb0 (new_below W0 (.cells #[.slice none 0 0, .slice none 0 0] 61))
  have hlog1 := WLog_any (w.heap.size + 1 + 1 + 1 + 1 + 1) M (w.heap.size + 1 + 1 + 1 + 1 + 1) da xd m1 xn _ _ _ ad1 n1 cap1 p1 c1 [] k0 _ hwd (hl1.later hb1') (hx.later hb1') hM1 hM0 List.Pairwise.nil (by simp; omega) hpc1 hda hxn hF1 (fun x k hk => by simpa [absL, atL] using hb1 x k hk) hbM hk3 hk0
  have HB0 := Hid.mk' hb0
  have HC := Hid.mk' hcell
  have HZ0 := Hid.mk' hz0
  have HW0 := Hid.mk' hW0
  have HL2 := Hid.mk' (hl2.later hb1')
  have HY := Hid.mk' (hy.later hb1')
  have HB1 := Hid.mk' (new_below W0 (.cells #[.slice none 0 0, .slice none 0 0] 61))
  obtain ⟨⟨⟨a0, a1⟩, a2, a3, a4⟩, _, _⟩ := hcell _ (new_below W0 (.cells #[.slice none 0 0, .slice none 0 0] 61))
  have HM2 := Hid.mk' hM2
  have HP2 := Hid.mk' hpc2
  have HF2 := Hid.mk' hF2
  have HBB := Hid.mk' hb2
  have HBA := Hid.mk' hb1
  clear hb0 hcell hwd hW0 hl1 hl2 hx hy hM1 hM2 hpc1 hpc2 hF1 hF2 hb1 hb2 hb1'
  go_enter Tryz.func9, Tryz.ntmps9
  go_upto_region 1 with fail
  rw [← HW0.out]
  go_upto_region 2 with fail
  obtain ⟨W1, hW1⟩ : ∃ W1, W1 = W0.alloc (.cells #[.slice none 0 0, .slice none 0 0] 61) := ⟨_, rfl⟩
  rw [← hW1] at hlog1 HL2 HY HB1 a0 a1 a2 a3 a4 ⊢
  clear hW1 hz0
  go_wp2_with fail
  refine hlog1.mono ?_
  clear hlog1 a0 a1 a2 a3 a4
  rintro e w2 ⟨rfl, vp2, vc2, L2, hi2⟩
  have hb02 : Below W0.heap.size W0 w2 := HB1.out.trans (hi2.below.mono (Nat.le_of_eq HZ0.out))
  have hlen2 := hi2.len
  simp at hlen2
  have HV2 : Hid (∀ x, atL (absL L2) x = xn * m1 * sumAt p1 c1 x n1) := fun x => by simpa [absL, atL] using hi2.val x
  have hlog2 := WLog_any (w.heap.size + 1 + 1 + 1 + 1 + 1) M (w.heap.size + 1 + 1 + 1 + 1 + 1) db yd m2 yn _ vp2 vc2 ad2 n2 cap2 p2 c2 L2 k0 w2 hi2.wide (HL2.out.kept hi2.kept) (HY.out.kept hi2.kept) HM2.out hM0 hi2.rise (by omega) HP2.out hdb hyn HF2.out (fun x k hk => by rw [HV2.out x]; exact HBB.out x k hk) hbM hk3 hk0
  obtain ⟨_, ⟨⟨a0, a1⟩, a2, a3, a4⟩, _⟩ := HC.out w2 hb02
  have HB2 := Hid.mk' hb02
  clear hi2 hb02 HM2 HP2 HF2
  go_wp2_with fail
  refine hlog2.mono ?_
  clear hlog2 a0 a1 a2 a3 a4
  rintro e w3 ⟨rfl, vp3, vc3, L3, hi3⟩
  have hb03 : Below W0.heap.size W0 w3 := HB2.out.trans (hi3.below.mono (Nat.le_of_eq HZ0.out))
  have hlen3 := hi3.len
  have HV3 : Hid (∀ x, atL (absL L3) x = xn * m1 * sumAt p1 c1 x n1 + yn * m2 * sumAt p2 c2 x n2) := fun x => by rw [hi3.val x, HV2.out x]
  obtain ⟨adp, capp, hvp⟩ : ∃ ad c, vp3 = .slice ad L3.length c := by
    rcases hi3.wide.P.2 with ⟨rfl, h0⟩ | ⟨g, cap, cur, rfl, _⟩
    · exact ⟨none, 0, by rw [h0]⟩
    · exact ⟨_, _, rfl⟩
  obtain ⟨adc, capc, hvc⟩ : ∃ ad c, vc3 = .slice ad L3.length c := by
    rcases hi3.wide.C.2 with ⟨rfl, h0⟩ | ⟨g, cap, cur, rfl, _⟩
    · exact ⟨none, 0, by rw [h0]⟩
    · exact ⟨_, _, rfl⟩
  have hwd3 := hi3.wide
  rw [hvp, hvc] at hwd3
  obtain ⟨fits, hfits⟩ := bool_of (FitsW M (gList M (zsOf L3)) L3)
  have htold := WTold_any (w.heap.size + 1 + 1 + 1 + 1 + 1) M (w.heap.size + 1 + 1 + 1 + 1 + 1) adp adc capp capc L3 k0 (gList M (zsOf L3)) fits w3 hwd3 hM0 (by omega) (hi3.coef (fun x => by rw [HV2.out x]; exact HBB.out x n2 (Nat.le_refl _))) hbM hk0 hk3 rfl hfits
  have HR3 := Hid.mk' hi3.rise
  have HFI := Hid.mk' hfits
  have HB3 := Hid.mk' hb03
  clear hwd3 hvp hvc hi3 hb03 hfits HV2 HL2 HY HB1 HB2 HBA HBB
  go_wp2_with fail
  refine htold.mono ?_
  clear htold
  rintro e w7 ⟨h7, hb7⟩
  obtain ⟨_, _, z0, z1, f0, f1⟩ := HC.out w7 (below_chain HB3.out hb7)
  have hsz : w.heap.size + 1 + 1 + 1 + 1 < w3.heap.size := by have h1 := HB3.out.size; have h2 := HZ0.out; omega
  have HB8 := Hid.mk' (below_chain HB0.out (below_chain HB3.out hb7))
  clear hb7 HC
  rcases h7 with ⟨hft, v, rfl, hrow⟩ | ⟨hff, rfl⟩
  · obtain ⟨ad, n', c', rfl⟩ : ∃ ad n' c', v = .slice ad n' c' := by
      rcases hrow.2 with ⟨rfl, _⟩ | ⟨gg, cap', cur', rfl, _⟩
      · exact ⟨_, _, _, rfl⟩
      · exact ⟨_, _, _, rfl⟩
    have HRW := Hid.mk' hrow
    clear hrow
    generalize hdn : ((M / gList M (zsOf L3) : Nat) : Int) = dn
    have HDN := Hid.mk' hdn
    clear hdn
    go_wp2_with fail
    refine bodyPost_ret (v := .tuple #[.agg #[.int .i64 dn, .slice ad n' c'], .int .i64 0]) (by simp [results, Tryz.results9, go_sem, z0, z1]) rfl ⟨absL L3, dn, ad, n', c', 0, rfl, HR3.out, HV3.out, by rw [absL_length]; omega, Or.inl ?_, (HB8.out.setCell (by simp; omega) _).setCell (by simp; omega) _⟩
    have h1 := ownsRow_setCell_below HRW.out (a := ⟨w.heap.size + 1 + 1 + 1 + 1, 0, none⟩) (by show w.heap.size + 1 + 1 + 1 + 1 < _; omega) (.int .i64 dn)
    have h2 := ownsRow_setCell_below h1 (a := ⟨w.heap.size + 1 + 1 + 1 + 1, 1, none⟩) (by show w.heap.size + 1 + 1 + 1 + 1 < _; omega) (.slice ad n' c')
    rw [flat_cells] at h2
    rw [← zs_abs]
    exact ⟨(fits_iff _ _ _).1 (HFI.out.1 hft), HDN.out.symm, rfl, ownAt_of_row h2⟩
  · go_wp2_with fail
    refine bodyPost_ret (v := .tuple #[.agg #[.int .i64 0, .slice none 0 0], .int .i64 2]) (by simp [results, Tryz.results9, go_sem, z0, z1]) rfl ⟨absL L3, 0, none, 0, 0, 2, rfl, HR3.out, HV3.out, by rw [absL_length]; omega, Or.inr ?_, (HB8.out.setCell (by simp; omega) _).setCell (by simp; omega) _⟩
    rw [← zs_abs]
    refine ⟨fun h => ?_, rfl, rfl, rfl⟩
    have := HFI.out.2 ((fits_iff _ _ _).2 h)
    rw [hff] at this
    cases this
end Go.Proofs.YtkcpmfilencekabGreatDoor

/- Two lists that tell the same; the document's sum of two in form. -/
namespace Go.Proofs.YtkcpmfilencekabGreatDoor
open Go.RowKit

def nzL (l : List (Int × Int)) : List (Int × Int) := l.filter fun e => !decide (e.2 = 0)
theorem nz_rise {l : List (Int × Int)} (h : Rising l) : Rising (nzL l) := List.Pairwise.filter _ h
theorem nz_nz {l : List (Int × Int)} : ∀ e ∈ nzL l, e.2 ≠ 0 := fun e he => by
  have := (List.mem_filter.1 he).2
  simpa using this
theorem nz_at {l : List (Int × Int)} (h : Rising l) (x : Int) : atL (nzL l) x = atL l x := by
  by_cases h0 : atL l x = 0
  · rw [h0]
    by_cases h1 : atL (nzL l) x = 0
    · exact h1
    · have h2 := (List.mem_filter.1 (atL_some h1)).1
      have h3 := atL_mem h h2
      simp only at h3
      exact h3.symm.trans h0
  · exact atL_mem (nz_rise h) (List.mem_filter.2 ⟨atL_some h0, by simpa using h0⟩)
theorem nz_same {l l' : List (Int × Int)} (h : Rising l) (h' : Rising l') (he : ∀ x, atL l x = atL l' x) : nzL l = nzL l' := rising_ext (nz_rise h) (nz_rise h') nz_nz nz_nz (fun x => by rw [nz_at h, nz_at h', he])
theorem nz_snd (l : List (Int × Int)) : (nzL l).map Prod.snd = (l.map Prod.snd).filter fun x => !decide (x = 0) := by
  unfold nzL
  rw [List.filter_map]
  rfl
theorem gList_same {l l' : List (Int × Int)} (h : Rising l) (h' : Rising l') (he : ∀ x, atL l x = atL l' x) (g : Nat) : gList g (l.map Prod.snd) = gList g (l'.map Prod.snd) := by
  rw [← gList_zeros, ← gList_zeros (l'.map Prod.snd), ← nz_snd, ← nz_snd, nz_same h h' he]
theorem over_same {l l' : List (Int × Int)} (h : Rising l) (h' : Rising l') (he : ∀ x, atL l x = atL l' x) (G : Nat) : overL G l = overL G l' := rising_ext (rising_over h G) (rising_over h' G) (fun e he => over_nz he) (fun e he => over_nz he) (fun x => by rw [atL_over h, atL_over h', he])
theorem fits_same {l l' : List (Int × Int)} (h' : Rising l') (he : ∀ x, atL l x = atL l' x) {M G : Nat} (hf : FitsL M G l) : FitsL M G l' := by
  refine ⟨hf.1, fun e hm => ?_⟩
  by_cases h0 : e.2 = 0
  · rw [h0]; simp
  · have h1 := atL_mem h' hm
    have h2 := he e.1
    rw [h1] at h2
    have h3 := hf.2 _ (atL_some (l := l) (x := e.1) (by rw [h2]; exact h0))
    simpa [h2] using h3
theorem gcdL_list {D : Nat} {l : List (Int × Int)} (hr : Rising l) : gcdL (D : Int) (atL l) (l.map Prod.fst) l.length = gList D (l.map Prod.snd) := by
  have h0 : gcdL (D : Int) (atL l) (l.map Prod.fst) l.length = gcdTo (D : Int) (cOf l) l.length := by
    have aux : ∀ k, k ≤ l.length → gcdTo (D : Int) (fun i => atL l ((l.map Prod.fst).getD i 0)) k = gcdTo (D : Int) (cOf l) k := by
      intro k
      induction k with
      | zero => intro _; rfl
      | succ k ih =>
        intro hk
        show Int.gcd (gcdTo (D : Int) (fun i => atL l ((l.map Prod.fst).getD i 0)) k : Int) (atL l ((l.map Prod.fst).getD k 0)) = Int.gcd (gcdTo (D : Int) (cOf l) k : Int) (cOf l k)
        rw [ih (by omega)]
        have : atL l ((l.map Prod.fst).getD k 0) = cOf l k := by rw [getD_fst (by omega)]; exact atL_mem hr (getD_mem (by omega))
        rw [this]
    exact aux _ (Nat.le_refl _)
  rw [h0, gcdTo_list _ _ _ (Nat.le_refl _), List.take_length, Int.natAbs_natCast]
theorem sumAt_list {t : List (Int × Int)} (hr : Rising t) (x : Int) : ∀ k, k ≤ t.length → sumAt (pOf t) (cOf t) x k = atL (t.take k) x
  | 0, _ => by simp [sumAt, atL]
  | k + 1, h => by
    rw [atL_take hr (by omega)]
    show sumAt _ _ _ k + _ = _
    rw [sumAt_list hr x k (by omega)]
    by_cases hx : x = pOf t k
    · rw [if_pos hx, if_pos hx.symm]
    · rw [if_neg hx, if_neg (Ne.symm hx)]
theorem sumAt_all {t : List (Int × Int)} (hr : Rising t) (x : Int) : sumAt (pOf t) (cOf t) x t.length = atL t x := by rw [sumAt_list hr x _ (Nat.le_refl _), List.take_length]
theorem sumAt_le {p c : Nat → Int} {n : Nat} (h : ∀ i, i < n → 0 ≤ p i ∧ -1099511627776 ≤ c i ∧ c i ≤ 1099511627776) (x : Int) : ∀ k, k ≤ n → (sumAt p c x k).natAbs ≤ k * 1099511627776
  | 0, _ => by simp [sumAt]
  | k + 1, hk => by
    have ih := sumAt_le h x k (by omega)
    have h1 := h k (by omega)
    show (sumAt p c x k + if x = p k then c k else 0).natAbs ≤ _
    by_cases hx : x = p k
    · rw [if_pos hx]; omega
    · rw [if_neg hx]; omega
theorem mul_bound {F s : Int} {a b : Nat} (hF : F.natAbs ≤ a) (hs : s.natAbs ≤ b) : (F * s).natAbs ≤ a * b := by rw [Int.natAbs_mul]; exact Nat.mul_le_mul hF hs
theorem okLog_pc {d : Int} {n : Nat} {p c : Nat → Int} (h : OkLog d n p c) : ∀ i, i < n → 0 ≤ p i ∧ -1099511627776 ≤ c i ∧ c i ≤ 1099511627776 := fun i hi => by
  have h1 := (h.2.2.1 i hi).2
  exact ⟨by have := h1.2.2.2.2.1; omega, h1.2.2.1, h1.2.2.2.1⟩
theorem LogAt.listed' {w : World} {sv : Value} {n : Nat} {p c : Nat → Int} (h : LogAt w sv n p c) : ∃ t : List (Int × Int), n = t.length ∧ LogAt w sv t.length (pOf t) (cOf t) := by
  refine ⟨(List.range n).map fun i => (p i, c i), by simp, ?_⟩
  rcases h with ⟨ad, cap, h1, h2⟩ | ⟨b, o, cap, h1, h2, h3⟩
  · exact Or.inl ⟨ad, cap, h1, by simp [h2]⟩
  · refine Or.inr ⟨b, o, cap, by simpa using h1, by simpa using h2, fun i hi => ?_⟩
    have hi' : i < n := by simpa using hi
    have e1 : pOf ((List.range n).map fun i => (p i, c i)) i = p i := by simp [pOf, List.getD, hi']
    have e2 : cOf ((List.range n).map fun i => (p i, c i)) i = c i := by simp [cOf, List.getD, hi']
    rw [e1, e2]
    exact h3 i hi'

/-- The answer of a sum: in form and nil, or nothing and ErrBound. -/
def SaidOf (M : Nat) (l : List (Int × Int)) (a : Nat → Addr) (w : World) (dn : Int) (v er : Value) : Prop := (FitsL M (gList M (l.map Prod.snd)) l ∧ dn = ((M / gList M (l.map Prod.snd) : Nat) : Int) ∧ er = .nilIface ∧ ListAt w v (overL (gList M (l.map Prod.snd)) l)) ∨ (¬ FitsL M (gList M (l.map Prod.snd)) l ∧ dn = 0 ∧ v = .slice none 0 0 ∧ er = .iface 232 (.pointer (some (a 1))))
theorem ToldOf.same {M : Nat} {l l' : List (Int × Int)} (h : Rising l) (h' : Rising l') (he : ∀ x, atL l x = atL l' x) {w : World} {dn : Int} {v : Value} {code : Int} (ht : ToldOf M l w dn v code) : ToldOf M l' w dn v code := by
  have hg := gList_same h h' he M
  have ho := over_same h h' he (gList M (l'.map Prod.snd))
  rcases ht with ⟨h1, h2, h3, h4⟩ | ⟨h1, h2, h3, h4⟩
  · rw [hg] at h1 h2 h4
    rw [ho] at h4
    exact Or.inl ⟨fits_same h' he h1, h2, h3, h4⟩
  · rw [hg] at h1
    exact Or.inr ⟨fun hf => h1 (fits_same h (fun x => (he x).symm) hf), h2, h3, h4⟩
theorem ToldOf.later {M : Nat} {l : List (Int × Int)} {w w' : World} {dn : Int} {v : Value} {code : Int} (ht : ToldOf M l w dn v code) (hb : Below w.heap.size w w') : ToldOf M l w' dn v code := by
  rcases ht with ⟨h1, h2, h3, h4⟩ | h
  · exact Or.inl ⟨h1, h2, h3, OwnAt.later h4 hb⟩
  · exact Or.inr h
theorem SaidOf.later {M : Nat} {l : List (Int × Int)} {a : Nat → Addr} {w w' : World} {dn : Int} {v er : Value} (ht : SaidOf M l a w dn v er) (hb : Below w.heap.size w w') : SaidOf M l a w' dn v er := by
  rcases ht with ⟨h1, h2, h3, h4⟩ | h
  · exact Or.inl ⟨h1, h2, h3, OwnAt.later h4 hb⟩
  · exact Or.inr h

/-- isLog of what both say of one sum. -/
theorem isLog_said (M : Nat) (l : List (Int × Int)) (a : Nat → Addr) (w : World) (h : Errs w a) (hl : l.length ≤ 1000000) (dn1 dn2 code : Int) (ad1 ad2 : Option Addr) (m1 m2 cap1 cap2 : Nat) (er : Value) (h1 : SaidOf M l a w dn1 (.slice ad1 m1 cap1) er) (h2 : ToldOf M l w dn2 (.slice ad2 m2 cap2) code) :
    Calls Tryz.prog 13 #[.agg #[.int .i64 dn1, .slice ad1 m1 cap1], er, .agg #[.int .i64 dn2, .slice ad2 m2 cap2], .int .i64 code] w fun e w' => e = .returned (.bool true) ∧ Below w.heap.size w w' := by
  rcases h1 with ⟨f1, rfl, rfl, l1⟩ | ⟨f1, rfl, v1, rfl⟩
  · rcases h2 with ⟨_, rfl, rfl, l2⟩ | ⟨f2, _⟩
    · exact isLog_ok _ _ _ _ _ _ w l1 l2 (by have := length_over l (gList M (l.map Prod.snd)); omega)
    · exact absurd f1 f2
  · rcases h2 with ⟨f2, _⟩ | ⟨_, rfl, v2, rfl⟩
    · exact absurd f2 f1
    · rw [v1]
      exact isLog_err a 1 (by decide) 0 ad2 m2 cap2 w h
end Go.Proofs.YtkcpmfilencekabGreatDoor

/- The law's one, the document's OfFrac. -/
namespace Go.Proofs.YtkcpmfilencekabGreatDoor
open Go.RowKit

set_option maxRecDepth 10000 in
set_option maxHeartbeats 1000000 in
theorem one_one (w : World) : Calls Tryz.prog 10 #[.int .i64 1] w fun e w' => ∃ r, e = .returned r ∧ RatioAt w' r 1 1 ∧ Below w.heap.size w w' := by
  have hB0 : Below w.heap.size w (w.alloc (.cells #[.bool false, .slice none 0 0, .slice none 0 0] 35)) := new_below _ _
  have hN := noInts_new3 w false none 0 0 none 0 0 35
  have hro : Calls Tryz.prog 24 #[.int .i64 1, .int .i64 1] (w.alloc (.cells #[.bool false, .slice none 0 0, .slice none 0 0] 35)) fun e w' => ∃ r, e = .returned r ∧ RatioAt w' r 1 1 ∧ Below (w.alloc (.cells #[.bool false, .slice none 0 0, .slice none 0 0] 35)).heap.size (w.alloc (.cells #[.bool false, .slice none 0 0, .slice none 0 0] 35)) w' := RatioOf_any 1 1 _ (by decide) (by decide) (by decide) (by decide)
  have HB0 := Hid.mk' hB0
  have HN := Hid.mk' hN
  clear hB0 hN
  go_enter Tryz.func10, Tryz.ntmps10
  go_wp2_with fail
  refine hro.mono ?_
  clear hro
  rintro e w1 ⟨r, rfl, ⟨u, q, rfl, hu, hq⟩, hb1⟩
  obtain ⟨ad8, l8, cap8, rfl, _⟩ := hu.len
  obtain ⟨ad9, l9, cap9, rfl, _⟩ := hq.len
  have nb := newBox3_of (W0 := w) (Below.refl _ _) hb1
  have c0 := nb.c0
  have c1 := nb.c1
  have c2 := nb.c2
  have f0 := nb.f0
  have f1 := nb.f1
  have f2 := nb.f2
  have HNB := Hid.mk' nb
  have HU := Hid.mk' hu
  have HQ := Hid.mk' hq
  have HB1 := Hid.mk' (below_chain HB0.out hb1)
  clear hu hq hb1 nb
  go_wp2_with fail
  refine bodyPost_ret (v := .agg #[.bool (decide ((1 : Int) < 0)), .slice ad8 l8 cap8, .slice ad9 l9 cap9]) (by simp [results, Tryz.results10, go_sem, c0, c1, c2]) rfl ⟨_, rfl, ⟨_, _, rfl, HU.out.set3 HNB.out.no c0 c1, HQ.out.set3 HNB.out.no c0 c1⟩, below_set3 HB1.out (Nat.le_refl _) _ _ _⟩

set_option maxRecDepth 10000 in
set_option maxHeartbeats 1000000 in
theorem OfFrac_any (n : Int) (d : Nat) (w : World) (h0 : -4611686018427387904 ≤ n) (h1 : n ≤ 4611686018427387904) (hd : 0 < d) (hd1 : d ≤ 4611686018427387904) : Calls Tryz.prog 14 #[.agg #[.int .i64 n, .int .i64 d]] w fun e w' => ∃ r, e = .returned r ∧ RatioAt w' r (n.tdiv ((Nat.gcd n.natAbs d : Nat) : Int)) (d / Nat.gcd n.natAbs d) ∧ Below w.heap.size w w' := by
  have hB0 : Below w.heap.size w ((w.alloc (.cells #[.int .i64 n, .int .i64 d] 45)).alloc (.cells #[.bool false, .slice none 0 0, .slice none 0 0] 35)) := more_below (new_below _ _) _
  have hro := RatioOf_any n d ((w.alloc (.cells #[.int .i64 n, .int .i64 d] 45)).alloc (.cells #[.bool false, .slice none 0 0, .slice none 0 0] 35)) h0 h1 hd hd1
  have HB0 := Hid.mk' hB0
  clear hB0
  generalize n.tdiv ((Nat.gcd n.natAbs d : Nat) : Int) = x at hro ⊢
  generalize d / Nat.gcd n.natAbs d = y at hro ⊢
  go_enter Tryz.func14, Tryz.ntmps14
  go_wp2_with fail
  refine hro.mono ?_
  clear hro
  rintro e w1 ⟨r, rfl, ⟨u, q, rfl, hu, hq⟩, hb1⟩
  obtain ⟨ad8, l8, cap8, rfl, _⟩ := hu.len
  obtain ⟨ad9, l9, cap9, rfl, _⟩ := hq.len
  have nb := newBox3_of (W0 := w) (new_below w (.cells #[.int .i64 n, .int .i64 d] 45)) hb1
  simp only [World.size_alloc] at nb
  have c0 := nb.c0
  have c1 := nb.c1
  have c2 := nb.c2
  have f0 := nb.f0
  have f1 := nb.f1
  have f2 := nb.f2
  have HNB := Hid.mk' nb
  have HU := Hid.mk' hu
  have HQ := Hid.mk' hq
  have HB1 := Hid.mk' (below_chain HB0.out hb1)
  obtain ⟨sg, hsg⟩ : ∃ sg, decide (x < 0) = sg := ⟨_, rfl⟩
  have HSG := Hid.mk' hsg
  rw [hsg]
  clear hu hq hb1 nb hsg
  go_wp2_with fail
  refine bodyPost_ret (v := .agg #[.bool sg, .slice ad8 l8 cap8, .slice ad9 l9 cap9]) (by simp [results, Tryz.results14, go_sem, c0, c1, c2]) rfl ⟨_, rfl, ⟨_, _, by rw [HSG.out], HU.out.set3 HNB.out.no c0 c1, HQ.out.set3 HNB.out.no c0 c1⟩, below_set3 HB1.out (by omega) _ _ _⟩
end Go.Proofs.YtkcpmfilencekabGreatDoor

/- The law LogsAdds. -/
namespace Go.Proofs.YtkcpmfilencekabGreatDoor
open Go.RowKit

theorem lcm_two {da db g : Nat} (hg : g = Int.gcd (da : Int) (db : Int)) (hda : 0 < da) : da / g * db = da * 1 * (db / g) ∧ da / g * db = db * 1 * (da / g) ∧ 0 < g := by
  have h1 : g = Nat.gcd da db := by rw [hg]; simp [Int.gcd]
  have hp : 0 < g := by rw [h1]; exact Nat.gcd_pos_of_pos_left _ hda
  obtain ⟨a, ha⟩ : g ∣ da := by rw [h1]; exact Nat.gcd_dvd_left _ _
  obtain ⟨b, hb⟩ : g ∣ db := by rw [h1]; exact Nat.gcd_dvd_right _ _
  clear hg h1
  have e1 : da / g = a := by rw [ha]; exact Nat.mul_div_cancel_left _ hp
  have e2 : db / g = b := by rw [hb]; exact Nat.mul_div_cancel_left _ hp
  rw [e1, e2]
  refine ⟨?_, ?_, hp⟩
  · rw [ha, hb]; grind
  · rw [hb]; grind

/-- Add's answer of two in form. -/
theorem Add_said (da db : Nat) (ad1 ad2 : Option Addr) (cap1 cap2 : Nat) (t1 t2 : List (Int × Int)) (a : Nat → Addr) (w : World) (h : Errs w a) (hl1 : LogAt w (.slice ad1 t1.length cap1) t1.length (pOf t1) (cOf t1)) (hl2 : LogAt w (.slice ad2 t2.length cap2) t2.length (pOf t2) (cOf t2))
    (hok1 : OkLog da t1.length (pOf t1) (cOf t1)) (hok2 : OkLog db t2.length (pOf t2) (cOf t2)) (hn : t1.length + t2.length ≤ 100) (g : Nat) (hg : g = Int.gcd (da : Int) (db : Int)) :
    Calls Tryz.prog 11 #[.agg #[.int .i64 da, .slice ad1 t1.length cap1], .agg #[.int .i64 db, .slice ad2 t2.length cap2]] w fun e w' => ∃ (l : List (Int × Int)) (dn : Int) (ad : Option Addr) (len cap : Nat) (er : Value), e = .returned (.tuple #[.agg #[.int .i64 dn, .slice ad len cap], er]) ∧ Rising l ∧ (∀ x, atL l x = atL t1 x * ((db / g : Nat) : Int) + atL t2 x * ((da / g : Nat) : Int)) ∧ l.length ≤ t1.length + t2.length ∧ SaidOf (da / g * db) l a w' dn (.slice ad len cap) er ∧ Below w.heap.size w w' := by
  refine (Add_any da db ad1 ad2 cap1 cap2 t1 t2 a w h hl1 hl2 hok1 hok2 hn g hg).mono ?_
  rintro e w' ⟨⟨l, G, hr, hv, hG, hln, hx⟩, hb⟩
  rw [gcdL_list hr] at hG
  have hf : Fits ((da / g * db : Nat) : Int) G l ↔ FitsL (da / g * db) G l := by
    unfold Fits FitsL
    have : (((da / g * db : Nat) : Int) / (G : Int) ≤ 1000000) ↔ da / g * db / G ≤ 1000000 := by
      generalize da / g * db = D
      rw [show (D : Int) / (G : Int) = ((D / G : Nat) : Int) by simp]
      omega
    rw [this]
  rcases hx with ⟨hfit, v, rfl, hl⟩ | ⟨hfit, rfl⟩
  · obtain ⟨ad, m, cap, rfl⟩ := own_form hl
    refine ⟨l, _, ad, m, cap, .nilIface, rfl, hr, hv, hln, Or.inl ?_, hb⟩
    rw [hG]
    exact ⟨hf.1 hfit, by simp, rfl, hl⟩
  · refine ⟨l, 0, none, 0, 0, _, rfl, hr, hv, hln, Or.inr ?_, hb⟩
    rw [hG]
    exact ⟨fun h => hfit (hf.2 h), rfl, rfl, rfl⟩

/-- The document's sum of two in form. -/
theorem LogSum_two (da db g : Nat) (xv yv : Value) (ad1 ad2 : Option Addr) (cap1 cap2 : Nat) (t1 t2 : List (Int × Int)) (w : World) (hl1 : LogAt w (.slice ad1 t1.length cap1) t1.length (pOf t1) (cOf t1)) (hl2 : LogAt w (.slice ad2 t2.length cap2) t2.length (pOf t2) (cOf t2)) (hx : RatioAt w xv 1 1) (hy : RatioAt w yv 1 1)
    (hok1 : OkLog da t1.length (pOf t1) (cOf t1)) (hok2 : OkLog db t2.length (pOf t2) (cOf t2)) (hn1 : t1.length ≤ 30) (hn2 : t2.length ≤ 30) (hg : g = Int.gcd (da : Int) (db : Int)) :
    Calls Tryz.prog 9 #[.agg #[.int .i64 da, .slice ad1 t1.length cap1], xv, .agg #[.int .i64 db, .slice ad2 t2.length cap2], yv] w fun e w' => ∃ (l : List (Int × Int)) (dn : Int) (ad : Option Addr) (len cap : Nat) (code : Int), e = .returned (.tuple #[.agg #[.int .i64 dn, .slice ad len cap], .int .i64 code]) ∧ Rising l ∧ (∀ x, atL l x = atL t1 x * ((db / g : Nat) : Int) + atL t2 x * ((da / g : Nat) : Int)) ∧ ToldOf (da / g * db) l w' dn (.slice ad len cap) code ∧ Below w.heap.size w w' := by
  have hda := hok1.1
  have hda6 := hok1.2.1
  have hdb := hok2.1
  have hdb6 := hok2.2.1
  obtain ⟨e1, e2, hgp⟩ := lcm_two hg (by omega)
  have q1 : db / g ≤ 1000000 := Nat.le_trans (Nat.div_le_self _ _) (by omega)
  have q2 : da / g ≤ 1000000 := Nat.le_trans (Nat.div_le_self _ _) (by omega)
  have hM0 : 0 < da / g * db := by
    refine Nat.mul_pos (Nat.div_pos (Nat.le_of_dvd (by omega) ?_) hgp) (by omega)
    rw [hg, show Int.gcd (da : Int) (db : Int) = Nat.gcd da db by simp [Int.gcd]]
    exact Nat.gcd_dvd_left _ _
  have hMb : da / g * db ≤ 1000000 * 1000000 := Nat.mul_le_mul q2 (by omega)
  have p4 : (1000000 : Nat) ^ 4 = 1000000000000000000000000 := by decide
  have pc1 := okLog_pc hok1
  have pc2 := okLog_pc hok2
  have f1 : ((1 : Int) * ((db / g : Nat) : Int)).natAbs ≤ 1000000 := by rw [Int.one_mul, Int.natAbs_natCast]; exact q1
  have f2 : ((1 : Int) * ((da / g : Nat) : Int)).natAbs ≤ 1000000 := by rw [Int.one_mul, Int.natAbs_natCast]; exact q2
  have s1 : ∀ x k, k ≤ t1.length → ((1 : Int) * ((db / g : Nat) : Int) * sumAt (pOf t1) (cOf t1) x k).natAbs ≤ 1000000 * (30 * 1099511627776) := fun x k hk => mul_bound f1 (Nat.le_trans (sumAt_le pc1 x k hk) (Nat.mul_le_mul_right _ (by omega)))
  have s2 : ∀ x k, k ≤ t2.length → ((1 : Int) * ((da / g : Nat) : Int) * sumAt (pOf t2) (cOf t2) x k).natAbs ≤ 1000000 * (30 * 1099511627776) := fun x k hk => mul_bound f2 (Nat.le_trans (sumAt_le pc2 x k hk) (Nat.mul_le_mul_right _ (by omega)))
  refine (LogSum_any (da / g * db) da db 1 1 (db / g) (da / g) 1 1 xv yv ad1 ad2 t1.length t2.length cap1 cap2 (pOf t1) (cOf t1) (pOf t2) (cOf t2) 4 w hl1 hl2 hx hy e1 e2 hM0 hn1 hn2 pc1 pc2 (by omega) (by omega) (by rw [p4]; decide) (by rw [p4]; decide)
    (fun i hi => by rw [p4]; exact Nat.lt_of_le_of_lt (mul_bound f1 (b := 1099511627776) (by have := pc1 i hi; omega)) (by decide)) (fun i hi => by rw [p4]; exact Nat.lt_of_le_of_lt (mul_bound f2 (b := 1099511627776) (by have := pc2 i hi; omega)) (by decide))
    (fun x k hk => by rw [p4]; exact Nat.lt_of_le_of_lt (s1 x k hk) (by decide)) (fun x k hk => by rw [p4]; exact Nat.lt_of_le_of_lt (Nat.le_trans (Int.natAbs_add_le _ _) (Nat.add_le_add (s1 x t1.length (Nat.le_refl _)) (s2 x k hk))) (by decide)) (by rw [p4]; omega) (by decide) (by decide)).mono ?_
  rintro e w' ⟨l, dn, ad, len, cap, code, rfl, hr, hv, _, ht, hb⟩
  have r1 : Rising t1 := (show OkLog (da : Int) t1.length (pOf t1) (cOf t1) from hok1).rising
  have r2 : Rising t2 := (show OkLog (db : Int) t2.length (pOf t2) (cOf t2) from hok2).rising
  refine ⟨l, dn, ad, len, cap, code, rfl, hr, fun x => ?_, ht, hb⟩
  rw [hv, sumAt_all r1, sumAt_all r2, Int.one_mul, Int.one_mul, Int.mul_comm, Int.mul_comm ((da / g : Nat) : Int)]
end Go.Proofs.YtkcpmfilencekabGreatDoor

/- The law LogsAdds, walked. -/
namespace Go.Proofs.YtkcpmfilencekabGreatDoor
open Go.RowKit

theorem own_set {w : World} {v : Value} {n : Nat} {p c : Nat → Int} {B : Nat} {ad : Option Addr} {l cap : Nat} {x y : Value} (h : OwnAt w v n p c) (hx : w.cell? ⟨B, 1, none⟩ = some (.slice ad l cap)) : OwnAt ((w.setCell ⟨B, 0, none⟩ x).setCell ⟨B, 1, none⟩ y) v n p c := by
  rcases h with h | ⟨g, cap', rfl, ht⟩
  · exact Or.inl h
  · refine Or.inr ⟨g, cap', rfl, fun i hi => ?_⟩
    have hne : B ≠ g := fun e => by
      have h1 := (ht 0 (by omega)).2
      rw [← e] at h1
      simp only [Nat.zero_mul, Nat.zero_add] at h1
      rw [hx] at h1
      cases h1
    constructor
    · rw [World.cell?_setCell_far _ _ _ _ hne, World.cell?_setCell_far _ _ _ _ hne]; exact (ht i hi).1
    · rw [World.cell?_setCell_far _ _ _ _ hne, World.cell?_setCell_far _ _ _ _ hne]; exact (ht i hi).2
theorem SaidOf.set {M : Nat} {l : List (Int × Int)} {a : Nat → Addr} {w : World} {dn : Int} {v er : Value} {B : Nat} {ad : Option Addr} {n cap : Nat} {x y : Value} (ht : SaidOf M l a w dn v er) (hx : w.cell? ⟨B, 1, none⟩ = some (.slice ad n cap)) : SaidOf M l a ((w.setCell ⟨B, 0, none⟩ x).setCell ⟨B, 1, none⟩ y) dn v er := by
  rcases ht with ⟨h1, h2, h3, h4⟩ | h
  · exact Or.inl ⟨h1, h2, h3, own_set h4 hx⟩
  · exact Or.inr h
theorem ToldOf.set {M : Nat} {l : List (Int × Int)} {w : World} {dn code : Int} {v : Value} {B : Nat} {ad : Option Addr} {n cap : Nat} {x y : Value} (ht : ToldOf M l w dn v code) (hx : w.cell? ⟨B, 1, none⟩ = some (.slice ad n cap)) : ToldOf M l ((w.setCell ⟨B, 0, none⟩ x).setCell ⟨B, 1, none⟩ y) dn v code := by
  rcases ht with ⟨h1, h2, h3, h4⟩ | h
  · exact Or.inl ⟨h1, h2, h3, own_set h4 hx⟩
  · exact Or.inr h
/-- A logarithm's box, ahead of its store. -/
structure NewBoxL (W0 W : World) (B : Nat) : Prop where
  c0 : W.cell? ⟨B, 0, none⟩ = some (.int .i64 0)
  c1 : W.cell? ⟨B, 1, none⟩ = some (.slice none 0 0)
  f0 : W.frozen? ⟨B, 0, none⟩ = false
  f1 : W.frozen? ⟨B, 1, none⟩ = false
  hB : W0.heap.size ≤ B
theorem NewBoxL.later {W0 W W' : World} {B : Nat} (h : NewBoxL W0 W B) (hb : Below W.heap.size W W') : NewBoxL W0 W' B :=
  ⟨(cell_past h.c0 hb).2, (cell_past h.c1 hb).2, (frozen_past h.c0 h.f0 hb).2, (frozen_past h.c1 h.f1 hb).2, h.hB⟩
theorem newBoxL_of {W0 W W' : World} (h : Below W0.heap.size W0 W) (hb : Below (W.alloc (.cells #[.int .i64 0, .slice none 0 0] 24)).heap.size (W.alloc (.cells #[.int .i64 0, .slice none 0 0] 24)) W') : NewBoxL W0 W' W.heap.size := by
  obtain ⟨c0, c1, f0, f1⟩ := res_past hb
  exact ⟨c0, c1, f0, f1, h.size⟩
/-- The program's answer in its box. -/
structure SaidBox (W0 W : World) (B : Nat) (M : Nat) (l : List (Int × Int)) (a : Nat → Addr) (er : Value) : Prop where
  below : Below W0.heap.size W0 W
  box : ∃ dn ad n cap, W.cell? ⟨B, 0, none⟩ = some (.int .i64 dn) ∧ W.cell? ⟨B, 1, none⟩ = some (.slice ad n cap) ∧ SaidOf M l a W dn (.slice ad n cap) er
theorem saidBox_late {W0 W : World} {M : Nat} {l : List (Int × Int)} {a : Nat → Addr} {er : Value} {dn : Int} {ad : Option Addr} {n cap : Nat} (h : Below W0.heap.size W0 W) (hs : SaidOf M l a W dn (.slice ad n cap) er) : SaidBox W0 (W.alloc (.cells #[.int .i64 dn, .slice ad n cap] 24)) W.heap.size M l a er :=
  ⟨more_below h _, dn, ad, n, cap, by rw [World.cell?_alloc_at _ _ _ _ rfl]; rfl, by rw [World.cell?_alloc_at _ _ _ _ rfl]; rfl, hs.later (new_below _ _)⟩
theorem saidBox_soon {W0 W : World} {B M : Nat} {l : List (Int × Int)} {a : Nat → Addr} {er : Value} {dn : Int} {ad : Option Addr} {n cap : Nat} (h : Below W0.heap.size W0 W) (hs : SaidOf M l a W dn (.slice ad n cap) er) (hn : NewBoxL W0 W B) : SaidBox W0 ((W.setCell ⟨B, 0, none⟩ (.int .i64 dn)).setCell ⟨B, 1, none⟩ (.slice ad n cap)) B M l a er :=
  ⟨setB_below h hn.hB _ _, dn, ad, n, cap, by rw [World.cell?_setCell_other _ _ _ _ (by simp)]; exact World.cell?_setCell_same _ _ _ hn.c0, World.cell?_setCell_same _ _ _ (by rw [World.cell?_setCell_other _ _ _ _ (by simp)]; exact hn.c1), hs.set hn.c1⟩
/-- The document's answer in its box. -/
structure ToldBox (W0 W : World) (B : Nat) (M : Nat) (l : List (Int × Int)) (code : Int) : Prop where
  below : Below W0.heap.size W0 W
  box : ∃ dn ad n cap, W.cell? ⟨B, 0, none⟩ = some (.int .i64 dn) ∧ W.cell? ⟨B, 1, none⟩ = some (.slice ad n cap) ∧ ToldOf M l W dn (.slice ad n cap) code
theorem toldBox_soon {W0 W : World} {B M : Nat} {l : List (Int × Int)} {code dn : Int} {ad : Option Addr} {n cap : Nat} (h : Below W0.heap.size W0 W) (hs : ToldOf M l W dn (.slice ad n cap) code) (hn : NewBoxL W0 W B) : ToldBox W0 ((W.setCell ⟨B, 0, none⟩ (.int .i64 dn)).setCell ⟨B, 1, none⟩ (.slice ad n cap)) B M l code :=
  ⟨setB_below h hn.hB _ _, dn, ad, n, cap, by rw [World.cell?_setCell_other _ _ _ _ (by simp)]; exact World.cell?_setCell_same _ _ _ hn.c0, World.cell?_setCell_same _ _ _ (by rw [World.cell?_setCell_other _ _ _ _ (by simp)]; exact hn.c1), hs.set hn.c1⟩

theorem own_logAt {w : World} {v : Value} {n : Nat} {p c : Nat → Int} (h : (v = .slice none 0 0 ∧ n = 0) ∨ ∃ g cap, v = .slice (some ⟨g, 0, none⟩) n cap ∧ TermsAt w g 0 n p c) : ∃ ad cap, v = .slice ad n cap ∧ LogAt w v n p c := by
  rcases h with ⟨rfl, rfl⟩ | ⟨g, cap, rfl, ht⟩
  · exact ⟨none, 0, rfl, Or.inl ⟨none, 0, rfl, rfl⟩⟩
  · rcases Nat.eq_zero_or_pos n with rfl | hn
    · exact ⟨_, cap, rfl, Or.inl ⟨_, cap, rfl, rfl⟩⟩
    · exact ⟨_, cap, rfl, Or.inr ⟨g, 0, cap, rfl, hn, ht⟩⟩
/-- What the law's boxes hold. -/
structure TwoLogs (w : World) (a : Nat → Addr) (da db : Int) (s1 s2 : Value) (n1 n2 : Nat) (p1 c1 p2 c2 : Nat → Int) (W : World) : Prop where
  errs : Errs W a
  log1 : LogAt W s1 n1 p1 c1
  log2 : LogAt W s2 n2 p2 c2
  x0 : W.cell? ⟨w.heap.size, 0, none⟩ = some (.int .i64 da)
  x1 : W.cell? ⟨w.heap.size, 1, none⟩ = some s1
  y0 : W.cell? ⟨w.heap.size + 1, 0, none⟩ = some (.int .i64 db)
  y1 : W.cell? ⟨w.heap.size + 1, 1, none⟩ = some s2
  below : Below w.heap.size w W
theorem twoLogs {w W : World} {a : Nat → Addr} {da db : Int} {ad1 ad2 : Option Addr} {m1 m2 cap1 cap2 n1 n2 : Nat} {p1 c1 p2 c2 : Nat → Int} (h : Errs w a) (hl1 : LogAt w (.slice ad1 m1 cap1) n1 p1 c1) (hl2 : LogAt w (.slice ad2 m2 cap2) n2 p2 c2)
    (hb : Below ((w.alloc (.cells #[.int .i64 da, .slice ad1 m1 cap1] 24)).alloc (.cells #[.int .i64 db, .slice ad2 m2 cap2] 24)).heap.size ((w.alloc (.cells #[.int .i64 da, .slice ad1 m1 cap1] 24)).alloc (.cells #[.int .i64 db, .slice ad2 m2 cap2] 24)) W) : TwoLogs w a da db (.slice ad1 m1 cap1) (.slice ad2 m2 cap2) n1 n2 p1 c1 p2 c2 W := by
  have h0 := below_chain (more_below (new_below w (.cells #[.int .i64 da, .slice ad1 m1 cap1] 24)) (.cells #[.int .i64 db, .slice ad2 m2 cap2] 24)) hb
  obtain ⟨q0, q1, _, _⟩ := res_past (below_chain (new_below (w.alloc (.cells #[.int .i64 da, .slice ad1 m1 cap1] 24)) (.cells #[.int .i64 db, .slice ad2 m2 cap2] 24)) hb)
  obtain ⟨q2, q3, _, _⟩ := res_past hb
  simp only [World.size_alloc] at q2 q3
  exact ⟨h.below h0, hl1.later h0, hl2.later h0, q0, q1, q2, q3, h0⟩

set_option maxRecDepth 100000 in
set_option maxHeartbeats 4000000 in
theorem LogsAdds_ok (da db : Nat) (ad1 ad2 : Option Addr) (cap1 cap2 : Nat) (t1 t2 : List (Int × Int)) (a : Nat → Addr) (w : World) (h : Errs w a) (hl1 : LogAt w (.slice ad1 t1.length cap1) t1.length (pOf t1) (cOf t1)) (hl2 : LogAt w (.slice ad2 t2.length cap2) t2.length (pOf t2) (cOf t2))
    (hok1 : OkLog da t1.length (pOf t1) (cOf t1)) (hok2 : OkLog db t2.length (pOf t2) (cOf t2)) (hn1 : t1.length ≤ 30) (hn2 : t2.length ≤ 30) :
    Calls Tryz.prog 3 #[.agg #[.int .i64 da, .slice ad1 t1.length cap1], .agg #[.int .i64 db, .slice ad2 t2.length cap2]] w fun e w' => e = .returned (.bool true) ∧ Below w.heap.size w w' := by
  obtain ⟨g, hg⟩ : ∃ g, g = Int.gcd (da : Int) (db : Int) := ⟨_, rfl⟩
  obtain ⟨n1, hn1e⟩ : ∃ n1, n1 = t1.length := ⟨_, rfl⟩
  obtain ⟨n2, hn2e⟩ : ∃ n2, n2 = t2.length := ⟨_, rfl⟩
  have HK := Hid.mk' (fun (W : World) => twoLogs (W := W) (da := (da : Int)) (db := (db : Int)) h hl1 hl2)
  have HSUM : Hid (∀ (W : World) (xv yv : Value), LogAt W (.slice ad1 t1.length cap1) t1.length (pOf t1) (cOf t1) → LogAt W (.slice ad2 t2.length cap2) t2.length (pOf t2) (cOf t2) → RatioAt W xv 1 1 → RatioAt W yv 1 1 → _) := fun W xv yv h1 h2 h3 h4 => LogSum_two da db g xv yv ad1 ad2 cap1 cap2 t1 t2 W h1 h2 h3 h4 hok1 hok2 hn1 hn2 hg
  have HADD : Hid (∀ (W : World) (ad1 ad2 : Option Addr) (cap1 cap2 : Nat), Errs W a → LogAt W (.slice ad1 t1.length cap1) t1.length (pOf t1) (cOf t1) → LogAt W (.slice ad2 t2.length cap2) t2.length (pOf t2) (cOf t2) → _) := fun W ad1 ad2 cap1 cap2 h1 h2 h3 => Add_said da db ad1 ad2 cap1 cap2 t1 t2 a W h1 h2 h3 hok1 hok2 (by omega) g hg
  have HOK := Hid.mk' (And.intro hok1 hok2)
  have HG := Hid.mk' hg
  have hE := eighth_any ((w.alloc (.cells #[.int .i64 da, .slice ad1 t1.length cap1] 24)).alloc (.cells #[.int .i64 db, .slice ad2 t2.length cap2] 24))
  obtain ⟨W0, hW0⟩ : ∃ W0, W0 = (w.alloc (.cells #[.int .i64 da, .slice ad1 t1.length cap1] 24)).alloc (.cells #[.int .i64 db, .slice ad2 t2.length cap2] 24) := ⟨_, rfl⟩
  rw [← hW0] at hE HK
  have HW0 := Hid.mk' hW0
  clear h hl1 hl2 hok1 hok2 hg hW0
  rw [← hn1e, ← hn2e] at HK HSUM HADD HOK HW0 ⊢
  rw [← hn1e] at hn1
  rw [← hn2e] at hn2
  have HN := Hid.mk' (And.intro hn1e hn2e)
  clear hn1e hn2e
  go_enter Tryz.func3, Tryz.ntmps3
  go_wp2_with fail
  rw [← HW0.out]
  refine hE.mono ?_
  clear hE
  rintro e w1 ⟨rfl, hb1⟩
  have k1 := HK.out w1 hb1
  have x0 := k1.x0
  have x1 := k1.x1
  have hsh := short_any da ad1 n1 cap1 true (by simpa using hn1) (by unfold maxLen; omega) w1
  have HB1 := Hid.mk' hb1
  clear hb1 k1
  go_wp2_with fail
  refine hsh.mono ?_
  clear hsh x0 x1
  rintro e w2 ⟨rfl, hb2⟩
  have HB2 := Hid.mk' (below_chain HB1.out hb2)
  have k2 := HK.out w2 HB2.out
  have y0 := k2.y0
  have y1 := k2.y1
  have hsh := short_any db ad2 n2 cap2 true (by simpa using hn2) (by unfold maxLen; omega) w2
  clear hb2 k2
  go_wp2_with fail
  refine hsh.mono ?_
  clear hsh y0 y1
  rintro e w3 ⟨rfl, hb3⟩
  have HB3 := Hid.mk' (below_chain HB2.out hb3)
  have k3 := HK.out w3 HB3.out
  have x0 := k3.x0
  have x1 := k3.x1
  have hle := LogError_at da (.slice ad1 n1 cap1) n1 true _ _ ⟨fun _ => HOK.out.1, fun _ => rfl⟩ w3 k3.log1 hn1
  simp only [shapeCode] at hle
  clear hb3 k3
  go_wp2_with fail
  refine hle.mono ?_
  clear hle x0 x1
  rintro e w4 ⟨rfl, hb4⟩
  have HB4 := Hid.mk' (below_chain HB3.out hb4)
  have k4 := HK.out w4 HB4.out
  have y0 := k4.y0
  have y1 := k4.y1
  have hle := LogError_at db (.slice ad2 n2 cap2) n2 true _ _ ⟨fun _ => HOK.out.2, fun _ => rfl⟩ w4 k4.log2 hn2
  simp only [shapeCode] at hle
  clear hb4 k4
  go_wp2_with fail
  refine hle.mono ?_
  clear hle y0 y1
  rintro e w5 ⟨rfl, hb5⟩
  have HB5 := Hid.mk' (below_chain HB4.out hb5)
  clear hb5 HB1 HB2 HB3 HB4
  go_upto_region 10 with fail
  have HNB0 : Hid (∀ W, Below (w5.alloc (.cells #[.int .i64 0, .slice none 0 0] 24)).heap.size (w5.alloc (.cells #[.int .i64 0, .slice none 0 0] 24)) W → NewBoxL W0 W w5.heap.size) := fun W hb => newBoxL_of HB5.out hb
  have HB6 : Hid (Below W0.heap.size W0 (w5.alloc (.cells #[.int .i64 0, .slice none 0 0] 24))) := more_below HB5.out _
  obtain ⟨W6, hW6⟩ : ∃ W6, W6 = w5.alloc (.cells #[.int .i64 0, .slice none 0 0] 24) := ⟨_, rfl⟩
  rw [← hW6] at HNB0 HB6 ⊢
  clear hW6
  have hcur0 : Below W6.heap.size W6 W6 := Below.refl _ _
  have hcur : Below W6.heap.size W6 W6.drew := (Below.refl _ _).drew
  have HKS : Hid (∀ W, Below W0.heap.size W0 W → (W.cell? ⟨w.heap.size, 0, none⟩ = some (.int .i64 da) ∧ W.cell? ⟨w.heap.size, 1, none⟩ = some (.slice ad1 n1 cap1)) ∧ (W.cell? ⟨w.heap.size + 1, 0, none⟩ = some (.int .i64 db) ∧ W.cell? ⟨w.heap.size + 1, 1, none⟩ = some (.slice ad2 n2 cap2))) := fun W hb => by
    have k := HK.out W hb
    exact ⟨⟨k.x0, k.x1⟩, k.y0, k.y1⟩
  go_cut [7] from 34 (fun s wx => ∃ (l : List (Int × Int)) (code : Int), s = .int .i64 code ∧ Hid (Rising l ∧ ∀ x, atL l x = atL t1 x * ((db / g : Nat) : Int) + atL t2 x * ((da / g : Nat) : Int)) ∧ Hid (ToldBox W0 wx w5.heap.size (da / g * db) l code))
  case first =>
    go_region_held3 (fun W => (W.cell? ⟨w.heap.size, 0, none⟩ = some (.int .i64 da) ∧ W.cell? ⟨w.heap.size, 1, none⟩ = some (.slice ad1 n1 cap1)) ∧ (W.cell? ⟨w.heap.size + 1, 0, none⟩ = some (.int .i64 db) ∧ W.cell? ⟨w.heap.size + 1, 1, none⟩ = some (.slice ad2 n2 cap2)))
      (first | exact HKS.out _ (below_chain HB6.out hcur0) | exact HKS.out _ (below_chain HB6.out hcur) | exact HKS.out _ (below_chain HB6.out hbw7) | exact HKS.out _ (below_chain HB6.out hbw8) | exact HKS.out _ (below_chain HB6.out hbw9) | exact HKS.out _ (setB_below (below_chain HB6.out hbw9) HB5.out.size _ _))
      (first
        | (go_at_call 9; refine (HSUM.out _ _ _ (HK.out _ (below_chain HB6.out hbw8)).log1 (HK.out _ (below_chain HB6.out hbw8)).log2 (HR7.out.later hb78) HR8.out).mono ?_; rintro e w9 ⟨l, dn, ad, len, cap, code, rfl, hr, hv, ht, hb9⟩; have hbw9 := below_chain hbw8 hb9; have nb := HNB0.out _ hbw9; have z0 := nb.c0; have z1 := nb.c1; have z2 := nb.f0; have z3 := nb.f1; have HT := Hid.mk' ht; have HRV := Hid.mk' (And.intro hr hv); clear hr hv ht hb9)
        | (go_at_call 10; refine (one_one w7).mono ?_; rintro e w8 ⟨r8, rfl, hr8, hb8⟩; have hbw8 := below_chain hbw7 hb8; have hb78 := hb8; have HR8 := Hid.mk' hr8; clear hr8 hb8)
        | (go_at_call 10; refine (one_one _).mono ?_; rintro e w7 ⟨r7, rfl, hr7, hb7⟩; have hbw7 := below_chain hcur hb7; have HR7 := Hid.mk' hr7; clear hr7 hb7))
    all_goals
      go_wp2_with fail
      go_meet
      exact ⟨_, _, rfl, HRV, toldBox_soon (below_chain HB6.out hbw9) HT.out nb⟩
  case rest =>
  obtain ⟨l, code, rfl, HRV, HTB⟩ := hcut
  obtain ⟨Wm, hWm⟩ : ∃ Wm, Wm = wc := ⟨_, rfl⟩
  rw [← hWm] at HTB ⊢
  clear hWm hcur hcur0 HB6 HNB0 HSUM
  have hcur0 : Below Wm.heap.size Wm Wm := Below.refl _ _
  have hcur : Below Wm.heap.size Wm Wm.drew := (Below.refl _ _).drew
  have hcurA : ∀ X, Below Wm.heap.size Wm (Wm.alloc X).drew := fun X => (new_below _ _).drew
  have HBM := Hid.mk' HTB.out.below
  go_upto_region 11 with fail
  go_cut [9, 10] from 42 (fun s r wx => ∃ (Bs : Nat) (er : Value) (l2 : List (Int × Int)), s = .pointer (some ⟨Bs, 0, none⟩) ∧ r = er ∧ Hid (Rising l2 ∧ (∀ x, atL l2 x = atL t1 x * ((db / g : Nat) : Int) + atL t2 x * ((da / g : Nat) : Int)) ∧ l2.length ≤ n1 + n2) ∧ Hid (SaidBox Wm wx Bs (da / g * db) l2 a er))
  case first =>
    go_region_held3 (fun W => (W.cell? ⟨w.heap.size, 0, none⟩ = some (.int .i64 da) ∧ W.cell? ⟨w.heap.size, 1, none⟩ = some (.slice ad1 n1 cap1)) ∧ (W.cell? ⟨w.heap.size + 1, 0, none⟩ = some (.int .i64 db) ∧ W.cell? ⟨w.heap.size + 1, 1, none⟩ = some (.slice ad2 n2 cap2)))
      (first | exact HKS.out _ (below_chain HBM.out hcur0) | exact HKS.out _ (below_chain HBM.out hcur) | exact HKS.out _ (below_chain HBM.out (hcurA _)) | exact HKS.out _ (below_chain HBM.out hbw7) | exact HKS.out _ (below_chain HBM.out hbw8) | exact HKS.out _ (below_chain HBM.out hbw9) | exact HKS.out _ (below_chain HBM.out (more_below hbw7 _)) | exact HKS.out _ (below_chain HBM.out (more_below hbw8 _)) | exact HKS.out _ (below_chain HBM.out (more_below hbw9 _)) | exact HKS.out _ (below_chain HBM.out (setB_below hbw9 NB.hB _ _)))
      (first
        | (go_at_call 11; have hz8 := hbw8; clear hz8; refine (HADD.out _ _ _ _ _ ?_ ?_ ?_).mono ?_; (first | exact (HK.out _ (below_chain HBM.out hbw8)).errs | exact (HK.out _ (below_chain HBM.out (more_below hbw8 _))).errs); (first | exact HL7.out.later h78 | exact HL7.out.later (more_below h78 _)); (first | exact HL8.out | exact HL8.out.later (new_below _ _)); rintro e w9 ⟨l2, dn, ad, len, cap, er, rfl, hr, hv, hln, ht, hb9⟩; (first | (have hbw9 := below_chain hbw8 hb9; try have NB := NB.later hb9) | (have hbw9 := below_chain (more_below hbw8 _) hb9; have NB := newBoxL_of hbw8 hb9)); (try (have z0 := NB.c0; have z1 := NB.c1; have z2 := NB.f0; have z3 := NB.f1)); have HT := Hid.mk' ht; have HR2 := Hid.mk' (And.intro hr (And.intro hv hln)); clear hr hv hln ht hb9)
        | (go_at_call 12; have hz7 := hbw7; clear hz7; refine (own_at db _ n2 (pOf t2) (cOf t2) _ ?_ hn2).mono ?_; (first | exact (HK.out _ (below_chain HBM.out hbw7)).log2 | exact (HK.out _ (below_chain HBM.out (more_below hbw7 _))).log2); rintro e w8 ⟨sv8, rfl, hs8, hb8⟩; (first | (have hbw8 := below_chain hbw7 hb8; have h78 := below_chain (Below.refl _ w7) hb8; try have NB := NB.later hb8) | (have hbw8 := below_chain (more_below hbw7 _) hb8; have h78 := below_chain (new_below w7 _) hb8; have NB := newBoxL_of hbw7 hb8)); obtain ⟨ad8, cap8, rfl, hl8⟩ := own_logAt hs8; have HL8 := Hid.mk' hl8; clear hs8 hb8 hl8)
        | (go_at_call 12; refine (own_at da _ n1 (pOf t1) (cOf t1) _ ?_ hn1).mono ?_; (first | exact (HK.out _ (below_chain HBM.out hcur)).log1 | exact (HK.out _ (below_chain HBM.out (hcurA _))).log1); rintro e w7 ⟨sv7, rfl, hs7, hb7⟩; (first | have hbw7 := below_chain hcur hb7 | (have hbw7 := below_chain (hcurA _) hb7; have NB := newBoxL_of hcur0 (below_chain ((Below.refl _ _).drew) hb7))); obtain ⟨ad7, cap7, rfl, hl7⟩ := own_logAt hs7; have HL7 := Hid.mk' hl7; clear hs7 hb7 hl7))
    all_goals
      go_wp2_with fail
      go_meet
      first | exact ⟨_, _, _, rfl, rfl, HR2, saidBox_late hbw9 HT.out⟩ | exact ⟨_, _, _, rfl, rfl, HR2, saidBox_soon hbw9 HT.out NB⟩
  case rest =>
  obtain ⟨Bs, er, l2, rfl, rfl, HR2, HSB⟩ := hcut
  obtain ⟨dn1, ad7, len7, cap7, s0, s1, hsd⟩ := HSB.out.box
  obtain ⟨dn2, ad8, len8, cap8, r0, r1, htd⟩ := HTB.out.box
  have r0' := (cell_past r0 HSB.out.below).2
  have r1' := (cell_past r1 HSB.out.below).2
  have htd' := (htd.later HSB.out.below).same HRV.out.1 HR2.out.1 (fun x => by rw [HRV.out.2, HR2.out.2.1])
  have hbc := below_chain HBM.out HSB.out.below
  have his := isLog_said (da / g * db) l2 a wc (HK.out _ hbc).errs (by have := HR2.out.2.2; omega) dn1 dn2 code ad7 ad8 len7 len8 cap7 cap8 _ hsd htd'
  have HBC := Hid.mk' hbc
  clear r0 r1 hsd htd htd' hbc
  go_wp2_with fail
  refine his.mono ?_
  clear his
  rintro e w12 ⟨rfl, hb12⟩
  go_wp2_with fail
  go_ret
  exact ⟨rfl, (HK.out _ (below_chain HBC.out hb12)).below⟩
end Go.Proofs.YtkcpmfilencekabGreatDoor

/- The law LogsAdds where one is not in form, or too long. -/
namespace Go.Proofs.YtkcpmfilencekabGreatDoor
open Go.RowKit

/-- Nothing in its box. -/
structure ZeroBox (W0 W : World) (B : Nat) : Prop where
  below : Below W0.heap.size W0 W
  c0 : W.cell? ⟨B, 0, none⟩ = some (.int .i64 0)
  c1 : W.cell? ⟨B, 1, none⟩ = some (.slice none 0 0)
theorem zeroBox_late {W0 W : World} (h : Below W0.heap.size W0 W) : ZeroBox W0 (W.alloc (.cells #[.int .i64 0, .slice none 0 0] 24)) W.heap.size :=
  ⟨more_below h _, by rw [World.cell?_alloc_at _ _ _ _ rfl]; rfl, by rw [World.cell?_alloc_at _ _ _ _ rfl]; rfl⟩
theorem zeroBox_soon {W0 W : World} {B : Nat} (h : Below W0.heap.size W0 W) (hn : NewBoxL W0 W B) : ZeroBox W0 ((W.setCell ⟨B, 0, none⟩ (.int .i64 0)).setCell ⟨B, 1, none⟩ (.slice none 0 0)) B :=
  ⟨setB_below h hn.hB _ _, by rw [World.cell?_setCell_other _ _ _ _ (by simp)]; exact World.cell?_setCell_same _ _ _ hn.c0, World.cell?_setCell_same _ _ _ (by rw [World.cell?_setCell_other _ _ _ _ (by simp)]; exact hn.c1)⟩
theorem zeroBox_same {W0 W : World} {B : Nat} (h : Below W0.heap.size W0 W) (hn : NewBoxL W0 W B) : ZeroBox W0 W B := ⟨h, hn.c0, hn.c1⟩

set_option maxRecDepth 100000 in
set_option maxHeartbeats 4000000 in
theorem LogsAdds_bad1 (da db : Int) (ad1 ad2 : Option Addr) (n1 n2 cap1 cap2 : Nat) (p1 c1 p2 c2 : Nat → Int) (a : Nat → Addr) (w : World) (h : Errs w a) (hl1 : LogAt w (.slice ad1 n1 cap1) n1 p1 c1) (hl2 : LogAt w (.slice ad2 n2 cap2) n2 p2 c2)
    (hbad : ¬ OkLog da n1 p1 c1) (hn1 : n1 ≤ 30) (hn2 : n2 ≤ 30) :
    Calls Tryz.prog 3 #[.agg #[.int .i64 da, .slice ad1 n1 cap1], .agg #[.int .i64 db, .slice ad2 n2 cap2]] w fun e w' => e = .returned (.bool true) ∧ Below w.heap.size w w' := by
  have HK := Hid.mk' (fun (W : World) => twoLogs (W := W) (da := da) (db := db) h hl1 hl2)
  have HADD : Hid (∀ (W : World) (v1 v2 : Value), Errs W a → LogAt W v1 n1 p1 c1 → LogAt W v2 n2 p2 c2 → _) := fun W v1 v2 h1 h2 h3 => Add_shape da db v1 v2 n1 n2 p1 c1 p2 c2 a W h1 h2 h3 (by omega) (by omega) (fun h => hbad h.1)
  have HOK := Hid.mk' hbad
  have hE := eighth_any ((w.alloc (.cells #[.int .i64 da, .slice ad1 n1 cap1] 24)).alloc (.cells #[.int .i64 db, .slice ad2 n2 cap2] 24))
  obtain ⟨W0, hW0⟩ : ∃ W0, W0 = (w.alloc (.cells #[.int .i64 da, .slice ad1 n1 cap1] 24)).alloc (.cells #[.int .i64 db, .slice ad2 n2 cap2] 24) := ⟨_, rfl⟩
  rw [← hW0] at hE HK
  have HW0 := Hid.mk' hW0
  clear h hl1 hl2 hW0 hbad
  go_enter Tryz.func3, Tryz.ntmps3
  go_wp2_with fail
  rw [← HW0.out]
  refine hE.mono ?_
  clear hE
  rintro e w1 ⟨rfl, hb1⟩
  have k1 := HK.out w1 hb1
  have x0 := k1.x0
  have x1 := k1.x1
  have hsh := short_any da ad1 n1 cap1 true (by simpa using hn1) (by unfold maxLen; omega) w1
  have HB1 := Hid.mk' hb1
  clear hb1 k1
  go_wp2_with fail
  refine hsh.mono ?_
  clear hsh x0 x1
  rintro e w2 ⟨rfl, hb2⟩
  have HB2 := Hid.mk' (below_chain HB1.out hb2)
  have k2 := HK.out w2 HB2.out
  have y0 := k2.y0
  have y1 := k2.y1
  have hsh := short_any db ad2 n2 cap2 true (by simpa using hn2) (by unfold maxLen; omega) w2
  clear hb2 k2
  go_wp2_with fail
  refine hsh.mono ?_
  clear hsh y0 y1
  rintro e w3 ⟨rfl, hb3⟩
  have HB3 := Hid.mk' (below_chain HB2.out hb3)
  have k3 := HK.out w3 HB3.out
  have x0 := k3.x0
  have x1 := k3.x1
  have hle := LogError_at da (.slice ad1 n1 cap1) n1 false _ _ ⟨(fun e => by cases e), (fun e => absurd e HOK.out)⟩ w3 k3.log1 hn1
  simp only [shapeCode] at hle
  clear hb3 k3
  go_wp2_with fail
  refine hle.mono ?_
  clear hle x0 x1
  rintro e w5 ⟨rfl, hb5⟩
  have HB5 := Hid.mk' (below_chain HB3.out hb5)
  clear hb5 HB1 HB2 HB3
  go_upto_region 11 with fail
  have HNB0 : Hid (∀ W, Below (w5.alloc (.cells #[.int .i64 0, .slice none 0 0] 24)).heap.size (w5.alloc (.cells #[.int .i64 0, .slice none 0 0] 24)) W → NewBoxL W0 W w5.heap.size) := fun W hb => newBoxL_of HB5.out hb
  have HBM : Hid (Below W0.heap.size W0 (w5.alloc (.cells #[.int .i64 0, .slice none 0 0] 24))) := more_below HB5.out _
  obtain ⟨Wm, hWm⟩ : ∃ Wm, Wm = w5.alloc (.cells #[.int .i64 0, .slice none 0 0] 24) := ⟨_, rfl⟩
  rw [← hWm] at HNB0 HBM ⊢
  clear hWm
  have hcur0 : Below Wm.heap.size Wm Wm := Below.refl _ _
  have hcur : Below Wm.heap.size Wm Wm.drew := (Below.refl _ _).drew
  have hcurA : ∀ X, Below Wm.heap.size Wm (Wm.alloc X).drew := fun X => (new_below _ _).drew
  have HKS : Hid (∀ W, Below W0.heap.size W0 W → (W.cell? ⟨w.heap.size, 0, none⟩ = some (.int .i64 da) ∧ W.cell? ⟨w.heap.size, 1, none⟩ = some (.slice ad1 n1 cap1)) ∧ (W.cell? ⟨w.heap.size + 1, 0, none⟩ = some (.int .i64 db) ∧ W.cell? ⟨w.heap.size + 1, 1, none⟩ = some (.slice ad2 n2 cap2))) := fun W hb => by
    have k := HK.out W hb
    exact ⟨⟨k.x0, k.x1⟩, k.y0, k.y1⟩
  go_cut [9, 10] from 42 (fun s r wx => ∃ (Bs : Nat), s = .pointer (some ⟨Bs, 0, none⟩) ∧ r = .iface 232 (.pointer (some (a 2))) ∧ Hid (ZeroBox Wm wx Bs))
  case first =>
    go_region_held3 (fun W => (W.cell? ⟨w.heap.size, 0, none⟩ = some (.int .i64 da) ∧ W.cell? ⟨w.heap.size, 1, none⟩ = some (.slice ad1 n1 cap1)) ∧ (W.cell? ⟨w.heap.size + 1, 0, none⟩ = some (.int .i64 db) ∧ W.cell? ⟨w.heap.size + 1, 1, none⟩ = some (.slice ad2 n2 cap2)))
      (first | exact HKS.out _ (below_chain HBM.out hcur0) | exact HKS.out _ (below_chain HBM.out hcur) | exact HKS.out _ (below_chain HBM.out (hcurA _)) | exact HKS.out _ (below_chain HBM.out hbw7) | exact HKS.out _ (below_chain HBM.out hbw8) | exact HKS.out _ (below_chain HBM.out hbw9) | exact HKS.out _ (below_chain HBM.out (more_below hbw7 _)) | exact HKS.out _ (below_chain HBM.out (more_below hbw8 _)) | exact HKS.out _ (below_chain HBM.out (more_below hbw9 _)) | exact HKS.out _ (below_chain HBM.out (setB_below hbw9 NB.hB _ _)))
      (first
        | (go_at_call 11; have hz8 := hbw8; clear hz8; refine (HADD.out _ _ _ ?_ ?_ ?_).mono ?_; (first | exact (HK.out _ (below_chain HBM.out hbw8)).errs | exact (HK.out _ (below_chain HBM.out (more_below hbw8 _))).errs); (first | exact HL7.out.later h78 | exact HL7.out.later (more_below h78 _)); (first | exact HL8.out | exact HL8.out.later (new_below _ _)); rintro e w9 ⟨rfl, hb9⟩; (first | (have hbw9 := below_chain hbw8 hb9; try have NB := NB.later hb9) | (have hbw9 := below_chain (more_below hbw8 _) hb9; have NB := newBoxL_of hbw8 hb9)); (try (have z0 := NB.c0; have z1 := NB.c1; have z2 := NB.f0; have z3 := NB.f1)); clear hb9)
        | (go_at_call 12; have hz7 := hbw7; clear hz7; refine (own_at db _ n2 p2 c2 _ ?_ hn2).mono ?_; (first | exact (HK.out _ (below_chain HBM.out hbw7)).log2 | exact (HK.out _ (below_chain HBM.out (more_below hbw7 _))).log2); rintro e w8 ⟨sv8, rfl, hs8, hb8⟩; (first | (have hbw8 := below_chain hbw7 hb8; have h78 := below_chain (Below.refl _ w7) hb8; try have NB := NB.later hb8) | (have hbw8 := below_chain (more_below hbw7 _) hb8; have h78 := below_chain (new_below w7 _) hb8; have NB := newBoxL_of hbw7 hb8)); obtain ⟨ad8, cap8, rfl, hl8⟩ := own_logAt hs8; have HL8 := Hid.mk' hl8; clear hs8 hb8 hl8)
        | (go_at_call 12; refine (own_at da _ n1 p1 c1 _ ?_ hn1).mono ?_; (first | exact (HK.out _ (below_chain HBM.out hcur)).log1 | exact (HK.out _ (below_chain HBM.out (hcurA _))).log1); rintro e w7 ⟨sv7, rfl, hs7, hb7⟩; (first | have hbw7 := below_chain hcur hb7 | (have hbw7 := below_chain (hcurA _) hb7; have NB := newBoxL_of hcur0 (below_chain ((Below.refl _ _).drew) hb7))); obtain ⟨ad7, cap7, rfl, hl7⟩ := own_logAt hs7; have HL7 := Hid.mk' hl7; clear hs7 hb7 hl7))
    all_goals
      go_wp2_with fail
      go_meet
      first | exact ⟨_, rfl, rfl, zeroBox_late hbw9⟩ | exact ⟨_, rfl, rfl, zeroBox_soon hbw9 NB⟩ | exact ⟨_, rfl, rfl, zeroBox_same hbw9 NB⟩
  case rest =>
  obtain ⟨Bs, rfl, rfl, HZB⟩ := hcut
  have s0 := HZB.out.c0
  have s1 := HZB.out.c1
  have nb := HNB0.out wc HZB.out.below
  have r0 := nb.c0
  have r1 := nb.c1
  have hbc := below_chain HBM.out HZB.out.below
  have his : Calls Tryz.prog 13 #[.agg #[.int .i64 0, .slice none 0 0], .iface 232 (.pointer (some (a 2))), .agg #[.int .i64 0, .slice none 0 0], .int .i64 3] _ _ := isLog_err a 2 (by decide) 0 none 0 0 wc (HK.out _ hbc).errs
  have HBC := Hid.mk' hbc
  clear hbc nb
  go_wp2_with fail
  refine his.mono ?_
  clear his
  rintro e w12 ⟨rfl, hb12⟩
  go_wp2_with fail
  go_ret
  exact ⟨rfl, (HK.out _ (below_chain HBC.out hb12)).below⟩

set_option maxRecDepth 100000 in
set_option maxHeartbeats 4000000 in
theorem LogsAdds_bad2 (da db : Int) (ad1 ad2 : Option Addr) (n1 n2 cap1 cap2 : Nat) (p1 c1 p2 c2 : Nat → Int) (a : Nat → Addr) (w : World) (h : Errs w a) (hl1 : LogAt w (.slice ad1 n1 cap1) n1 p1 c1) (hl2 : LogAt w (.slice ad2 n2 cap2) n2 p2 c2)
    (hok1 : OkLog da n1 p1 c1) (hbad : ¬ OkLog db n2 p2 c2) (hn1 : n1 ≤ 30) (hn2 : n2 ≤ 30) :
    Calls Tryz.prog 3 #[.agg #[.int .i64 da, .slice ad1 n1 cap1], .agg #[.int .i64 db, .slice ad2 n2 cap2]] w fun e w' => e = .returned (.bool true) ∧ Below w.heap.size w w' := by
  have HK := Hid.mk' (fun (W : World) => twoLogs (W := W) (da := da) (db := db) h hl1 hl2)
  have HADD : Hid (∀ (W : World) (v1 v2 : Value), Errs W a → LogAt W v1 n1 p1 c1 → LogAt W v2 n2 p2 c2 → _) := fun W v1 v2 h1 h2 h3 => Add_shape da db v1 v2 n1 n2 p1 c1 p2 c2 a W h1 h2 h3 (by omega) (by omega) (fun h => hbad h.2)
  have HOK := Hid.mk' (And.intro hok1 hbad)
  have hE := eighth_any ((w.alloc (.cells #[.int .i64 da, .slice ad1 n1 cap1] 24)).alloc (.cells #[.int .i64 db, .slice ad2 n2 cap2] 24))
  obtain ⟨W0, hW0⟩ : ∃ W0, W0 = (w.alloc (.cells #[.int .i64 da, .slice ad1 n1 cap1] 24)).alloc (.cells #[.int .i64 db, .slice ad2 n2 cap2] 24) := ⟨_, rfl⟩
  rw [← hW0] at hE HK
  have HW0 := Hid.mk' hW0
  clear h hl1 hl2 hW0 hbad hok1
  go_enter Tryz.func3, Tryz.ntmps3
  go_wp2_with fail
  rw [← HW0.out]
  refine hE.mono ?_
  clear hE
  rintro e w1 ⟨rfl, hb1⟩
  have k1 := HK.out w1 hb1
  have x0 := k1.x0
  have x1 := k1.x1
  have hsh := short_any da ad1 n1 cap1 true (by simpa using hn1) (by unfold maxLen; omega) w1
  have HB1 := Hid.mk' hb1
  clear hb1 k1
  go_wp2_with fail
  refine hsh.mono ?_
  clear hsh x0 x1
  rintro e w2 ⟨rfl, hb2⟩
  have HB2 := Hid.mk' (below_chain HB1.out hb2)
  have k2 := HK.out w2 HB2.out
  have y0 := k2.y0
  have y1 := k2.y1
  have hsh := short_any db ad2 n2 cap2 true (by simpa using hn2) (by unfold maxLen; omega) w2
  clear hb2 k2
  go_wp2_with fail
  refine hsh.mono ?_
  clear hsh y0 y1
  rintro e w3 ⟨rfl, hb3⟩
  have HB3 := Hid.mk' (below_chain HB2.out hb3)
  have k3 := HK.out w3 HB3.out
  have x0 := k3.x0
  have x1 := k3.x1
  have hle := LogError_at da (.slice ad1 n1 cap1) n1 true _ _ ⟨fun _ => HOK.out.1, fun _ => rfl⟩ w3 k3.log1 hn1
  simp only [shapeCode] at hle
  clear hb3 k3
  go_wp2_with fail
  refine hle.mono ?_
  clear hle x0 x1
  rintro e w4 ⟨rfl, hb4⟩
  have HB4 := Hid.mk' (below_chain HB3.out hb4)
  have k4 := HK.out w4 HB4.out
  have y0 := k4.y0
  have y1 := k4.y1
  have hle := LogError_at db (.slice ad2 n2 cap2) n2 false _ _ ⟨(fun e => by cases e), (fun e => absurd e HOK.out.2)⟩ w4 k4.log2 hn2
  simp only [shapeCode] at hle
  clear hb4 k4
  go_wp2_with fail
  refine hle.mono ?_
  clear hle y0 y1
  rintro e w5 ⟨rfl, hb5⟩
  have HB5 := Hid.mk' (below_chain HB4.out hb5)
  clear hb5 HB1 HB2 HB3 HB4
  go_upto_region 11 with fail
  have HNB0 : Hid (∀ W, Below (w5.alloc (.cells #[.int .i64 0, .slice none 0 0] 24)).heap.size (w5.alloc (.cells #[.int .i64 0, .slice none 0 0] 24)) W → NewBoxL W0 W w5.heap.size) := fun W hb => newBoxL_of HB5.out hb
  have HBM : Hid (Below W0.heap.size W0 (w5.alloc (.cells #[.int .i64 0, .slice none 0 0] 24))) := more_below HB5.out _
  obtain ⟨Wm, hWm⟩ : ∃ Wm, Wm = w5.alloc (.cells #[.int .i64 0, .slice none 0 0] 24) := ⟨_, rfl⟩
  rw [← hWm] at HNB0 HBM ⊢
  clear hWm
  have hcur0 : Below Wm.heap.size Wm Wm := Below.refl _ _
  have hcur : Below Wm.heap.size Wm Wm.drew := (Below.refl _ _).drew
  have hcurA : ∀ X, Below Wm.heap.size Wm (Wm.alloc X).drew := fun X => (new_below _ _).drew
  have HKS : Hid (∀ W, Below W0.heap.size W0 W → (W.cell? ⟨w.heap.size, 0, none⟩ = some (.int .i64 da) ∧ W.cell? ⟨w.heap.size, 1, none⟩ = some (.slice ad1 n1 cap1)) ∧ (W.cell? ⟨w.heap.size + 1, 0, none⟩ = some (.int .i64 db) ∧ W.cell? ⟨w.heap.size + 1, 1, none⟩ = some (.slice ad2 n2 cap2))) := fun W hb => by
    have k := HK.out W hb
    exact ⟨⟨k.x0, k.x1⟩, k.y0, k.y1⟩
  go_cut [9, 10] from 42 (fun s r wx => ∃ (Bs : Nat), s = .pointer (some ⟨Bs, 0, none⟩) ∧ r = .iface 232 (.pointer (some (a 2))) ∧ Hid (ZeroBox Wm wx Bs))
  case first =>
    go_region_held3 (fun W => (W.cell? ⟨w.heap.size, 0, none⟩ = some (.int .i64 da) ∧ W.cell? ⟨w.heap.size, 1, none⟩ = some (.slice ad1 n1 cap1)) ∧ (W.cell? ⟨w.heap.size + 1, 0, none⟩ = some (.int .i64 db) ∧ W.cell? ⟨w.heap.size + 1, 1, none⟩ = some (.slice ad2 n2 cap2)))
      (first | exact HKS.out _ (below_chain HBM.out hcur0) | exact HKS.out _ (below_chain HBM.out hcur) | exact HKS.out _ (below_chain HBM.out (hcurA _)) | exact HKS.out _ (below_chain HBM.out hbw7) | exact HKS.out _ (below_chain HBM.out hbw8) | exact HKS.out _ (below_chain HBM.out hbw9) | exact HKS.out _ (below_chain HBM.out (more_below hbw7 _)) | exact HKS.out _ (below_chain HBM.out (more_below hbw8 _)) | exact HKS.out _ (below_chain HBM.out (more_below hbw9 _)) | exact HKS.out _ (below_chain HBM.out (setB_below hbw9 NB.hB _ _)))
      (first
        | (go_at_call 11; have hz8 := hbw8; clear hz8; refine (HADD.out _ _ _ ?_ ?_ ?_).mono ?_; (first | exact (HK.out _ (below_chain HBM.out hbw8)).errs | exact (HK.out _ (below_chain HBM.out (more_below hbw8 _))).errs); (first | exact HL7.out.later h78 | exact HL7.out.later (more_below h78 _)); (first | exact HL8.out | exact HL8.out.later (new_below _ _)); rintro e w9 ⟨rfl, hb9⟩; (first | (have hbw9 := below_chain hbw8 hb9; try have NB := NB.later hb9) | (have hbw9 := below_chain (more_below hbw8 _) hb9; have NB := newBoxL_of hbw8 hb9)); (try (have z0 := NB.c0; have z1 := NB.c1; have z2 := NB.f0; have z3 := NB.f1)); clear hb9)
        | (go_at_call 12; have hz7 := hbw7; clear hz7; refine (own_at db _ n2 p2 c2 _ ?_ hn2).mono ?_; (first | exact (HK.out _ (below_chain HBM.out hbw7)).log2 | exact (HK.out _ (below_chain HBM.out (more_below hbw7 _))).log2); rintro e w8 ⟨sv8, rfl, hs8, hb8⟩; (first | (have hbw8 := below_chain hbw7 hb8; have h78 := below_chain (Below.refl _ w7) hb8; try have NB := NB.later hb8) | (have hbw8 := below_chain (more_below hbw7 _) hb8; have h78 := below_chain (new_below w7 _) hb8; have NB := newBoxL_of hbw7 hb8)); obtain ⟨ad8, cap8, rfl, hl8⟩ := own_logAt hs8; have HL8 := Hid.mk' hl8; clear hs8 hb8 hl8)
        | (go_at_call 12; refine (own_at da _ n1 p1 c1 _ ?_ hn1).mono ?_; (first | exact (HK.out _ (below_chain HBM.out hcur)).log1 | exact (HK.out _ (below_chain HBM.out (hcurA _))).log1); rintro e w7 ⟨sv7, rfl, hs7, hb7⟩; (first | have hbw7 := below_chain hcur hb7 | (have hbw7 := below_chain (hcurA _) hb7; have NB := newBoxL_of hcur0 (below_chain ((Below.refl _ _).drew) hb7))); obtain ⟨ad7, cap7, rfl, hl7⟩ := own_logAt hs7; have HL7 := Hid.mk' hl7; clear hs7 hb7 hl7))
    all_goals
      go_wp2_with fail
      go_meet
      first | exact ⟨_, rfl, rfl, zeroBox_late hbw9⟩ | exact ⟨_, rfl, rfl, zeroBox_soon hbw9 NB⟩ | exact ⟨_, rfl, rfl, zeroBox_same hbw9 NB⟩
  case rest =>
  obtain ⟨Bs, rfl, rfl, HZB⟩ := hcut
  have s0 := HZB.out.c0
  have s1 := HZB.out.c1
  have nb := HNB0.out wc HZB.out.below
  have r0 := nb.c0
  have r1 := nb.c1
  have hbc := below_chain HBM.out HZB.out.below
  have his : Calls Tryz.prog 13 #[.agg #[.int .i64 0, .slice none 0 0], .iface 232 (.pointer (some (a 2))), .agg #[.int .i64 0, .slice none 0 0], .int .i64 3] _ _ := isLog_err a 2 (by decide) 0 none 0 0 wc (HK.out _ hbc).errs
  have HBC := Hid.mk' hbc
  clear hbc nb
  go_wp2_with fail
  refine his.mono ?_
  clear his
  rintro e w12 ⟨rfl, hb12⟩
  go_wp2_with fail
  go_ret
  exact ⟨rfl, (HK.out _ (below_chain HBC.out hb12)).below⟩

set_option maxRecDepth 100000 in
set_option maxHeartbeats 1000000 in
theorem LogsAdds_long (da db : Int) (ad1 ad2 : Option Addr) (n1 n2 cap1 cap2 : Nat) (w : World) (h1 : n1 ≤ maxLen) (h2 : n2 ≤ maxLen) (hl : 30 < n1 ∨ 30 < n2) :
    Calls Tryz.prog 3 #[.agg #[.int .i64 da, .slice ad1 n1 cap1], .agg #[.int .i64 db, .slice ad2 n2 cap2]] w fun e w' => e = .returned (.bool true) ∧ Below w.heap.size w w' := by
  have hb0 : Below w.heap.size w ((w.alloc (.cells #[.int .i64 da, .slice ad1 n1 cap1] 24)).alloc (.cells #[.int .i64 db, .slice ad2 n2 cap2] 24)) := more_below (new_below _ _) _
  have HC : Hid (∀ W, Below ((w.alloc (.cells #[.int .i64 da, .slice ad1 n1 cap1] 24)).alloc (.cells #[.int .i64 db, .slice ad2 n2 cap2] 24)).heap.size ((w.alloc (.cells #[.int .i64 da, .slice ad1 n1 cap1] 24)).alloc (.cells #[.int .i64 db, .slice ad2 n2 cap2] 24)) W → (W.cell? ⟨w.heap.size, 0, none⟩ = some (.int .i64 da) ∧ W.cell? ⟨w.heap.size, 1, none⟩ = some (.slice ad1 n1 cap1)) ∧ (W.cell? ⟨w.heap.size + 1, 0, none⟩ = some (.int .i64 db) ∧ W.cell? ⟨w.heap.size + 1, 1, none⟩ = some (.slice ad2 n2 cap2))) := fun W hb => by
    obtain ⟨q0, q1, _, _⟩ := res_past (below_chain (new_below (w.alloc (.cells #[.int .i64 da, .slice ad1 n1 cap1] 24)) (.cells #[.int .i64 db, .slice ad2 n2 cap2] 24)) hb)
    obtain ⟨q2, q3, _, _⟩ := res_past hb
    simp only [World.size_alloc] at q2 q3
    exact ⟨⟨q0, q1⟩, q2, q3⟩
  have hE := eighth_any ((w.alloc (.cells #[.int .i64 da, .slice ad1 n1 cap1] 24)).alloc (.cells #[.int .i64 db, .slice ad2 n2 cap2] 24))
  obtain ⟨W0, hW0⟩ : ∃ W0, W0 = (w.alloc (.cells #[.int .i64 da, .slice ad1 n1 cap1] 24)).alloc (.cells #[.int .i64 db, .slice ad2 n2 cap2] 24) := ⟨_, rfl⟩
  rw [← hW0] at hE HC hb0
  have HW0 := Hid.mk' hW0
  have HB0 := Hid.mk' hb0
  clear hW0 hb0
  by_cases hs : n1 ≤ 30
  · have hs2 : ¬ n2 ≤ 30 := by omega
    go_enter Tryz.func3, Tryz.ntmps3
    go_wp2_with fail
    rw [← HW0.out]
    refine hE.mono ?_
    clear hE
    rintro e w1 ⟨rfl, hb1⟩
    obtain ⟨⟨x0, x1⟩, _⟩ := HC.out w1 hb1
    have hsh := short_any da ad1 n1 cap1 true (by simpa using hs) h1 w1
    have HB1 := Hid.mk' hb1
    clear hb1
    go_wp2_with fail
    refine hsh.mono ?_
    clear hsh x0 x1
    rintro e w2 ⟨rfl, hb2⟩
    have HB2 := Hid.mk' (below_chain HB1.out hb2)
    obtain ⟨_, y0, y1⟩ := HC.out w2 HB2.out
    have hsh := short_any db ad2 n2 cap2 false (by simpa using hs2) h2 w2
    clear hb2
    go_wp2_with fail
    refine hsh.mono ?_
    clear hsh y0 y1
    rintro e w3 ⟨rfl, hb3⟩
    go_wp2_with fail
    go_ret
    exact ⟨rfl, below_chain HB0.out (below_chain HB2.out hb3)⟩
  · go_enter Tryz.func3, Tryz.ntmps3
    go_wp2_with fail
    rw [← HW0.out]
    refine hE.mono ?_
    clear hE
    rintro e w1 ⟨rfl, hb1⟩
    obtain ⟨⟨x0, x1⟩, _⟩ := HC.out w1 hb1
    have hsh := short_any da ad1 n1 cap1 false (by simpa using hs) h1 w1
    have HB1 := Hid.mk' hb1
    clear hb1
    go_wp2_with fail
    refine hsh.mono ?_
    clear hsh x0 x1
    rintro e w2 ⟨rfl, hb2⟩
    go_wp2_with fail
    go_ret
    exact ⟨rfl, below_chain HB0.out (below_chain HB1.out hb2)⟩
end Go.Proofs.YtkcpmfilencekabGreatDoor
