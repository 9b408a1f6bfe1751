/- The document's LogSum. -/
import Derived.Test.YtiecbconcdncmabGreatDoorWLog
import Derived.Test.YtiecbconcdncmabGreatDoorWToldW
import Derived.Test.YtiecbconcdncmabGreatDoorIsLogW
namespace Go.Proofs.YtiecbconcdncmabGreatDoor
open Go.RowKit

def FitsL (M G : Nat) (l : List (Int × Int)) : Prop := M / G ≤ 1000000 ∧ ∀ e ∈ l, (e.2.tdiv (G : Int)).natAbs ≤ 1099511627776
theorem fits_iff (M G : Nat) (L : List Ent) : FitsW M G L ↔ FitsL M G (absL L) := by
  unfold FitsW FitsL
  constructor
  · rintro ⟨h1, h2⟩
    refine ⟨h1, fun e he => ?_⟩
    obtain ⟨f, hf, rfl⟩ := List.mem_map.1 he
    exact h2 f hf
  · rintro ⟨h1, h2⟩
    exact ⟨h1, fun e he => h2 _ (absL_mem he)⟩
theorem zs_abs (L : List Ent) : zsOf L = (absL L).map Prod.snd := by unfold zsOf absL; rw [List.map_map]; rfl
theorem bool_of (P : Prop) : ∃ b : Bool, b = true ↔ P := by
  by_cases h : P
  · exact ⟨true, ⟨fun _ => h, fun _ => rfl⟩⟩
  · exact ⟨false, ⟨(fun e => by cases e), (fun e => absurd e h)⟩⟩
/-- What is told of a sum l over M: in form, or the bound. -/
def ToldOf (M : Nat) (l : List (Int × Int)) (w : World) (dn : Int) (v : Value) (code : Int) : Prop := (FitsL M (gList M (l.map Prod.snd)) l ∧ dn = ((M / gList M (l.map Prod.snd) : Nat) : Int) ∧ code = 0 ∧ ListAt w v (overL (gList M (l.map Prod.snd)) l)) ∨ (¬ FitsL M (gList M (l.map Prod.snd)) l ∧ dn = 0 ∧ v = .slice none 0 0 ∧ code = 2)

set_option maxRecDepth 100000 in
set_option maxHeartbeats 4000000 in
theorem LogSum_any (M da db xd yd m1 m2 : Nat) (xn yn : Int) (xv yv : Value) (ad1 ad2 : Option Addr) (n1 n2 cap1 cap2 : Nat) (p1 c1 p2 c2 : Nat → Int) (k0 : Nat) (w : World) (hl1 : LogAt w (.slice ad1 n1 cap1) n1 p1 c1) (hl2 : LogAt w (.slice ad2 n2 cap2) n2 p2 c2) (hx : RatioAt w xv xn xd) (hy : RatioAt w yv yn yd) (hM1 : M = da * xd * m1) (hM2 : M = db * yd * m2) (hM0 : 0 < M) (hn1 : n1 ≤ 30) (hn2 : n2 ≤ 30)
    (hpc1 : ∀ i, i < n1 → 0 ≤ p1 i ∧ -1099511627776 ≤ c1 i ∧ c1 i ≤ 1099511627776) (hpc2 : ∀ i, i < n2 → 0 ≤ p2 i ∧ -1099511627776 ≤ c2 i ∧ c2 i ≤ 1099511627776) (hda : da ≤ 1000000) (hdb : db ≤ 1000000) (hxn : xn.natAbs < 1000000 ^ k0) (hyn : yn.natAbs < 1000000 ^ k0)
    (hF1 : ∀ i, i < n1 → (xn * m1 * c1 i).natAbs < 1000000 ^ k0) (hF2 : ∀ i, i < n2 → (yn * m2 * c2 i).natAbs < 1000000 ^ k0) (hb1 : ∀ x k, k ≤ n1 → (xn * m1 * sumAt p1 c1 x k).natAbs < 1000000 ^ k0) (hb2 : ∀ x k, k ≤ n2 → (xn * m1 * sumAt p1 c1 x n1 + yn * m2 * sumAt p2 c2 x k).natAbs < 1000000 ^ k0) (hbM : M < 1000000 ^ k0) (hk3 : 3 ≤ k0) (hk0 : k0 ≤ 1000) :
    Calls Tryz.prog 9 #[.agg #[.int .i64 da, .slice ad1 n1 cap1], xv, .agg #[.int .i64 db, .slice ad2 n2 cap2], yv] w fun e w' => ∃ (l : List (Int × Int)) (dn : Int) (ad : Option Addr) (len cap : Nat) (code : Int), e = .returned (.tuple #[.agg #[.int .i64 dn, .slice ad len cap], .int .i64 code]) ∧ Rising l ∧ (∀ x, atL l x = xn * m1 * sumAt p1 c1 x n1 + yn * m2 * sumAt p2 c2 x n2) ∧ l.length ≤ n1 + n2 ∧ ToldOf M l w' dn (.slice ad len cap) code ∧ Below w.heap.size w w' := by
  obtain ⟨s, ad, l, cap, ad', l', cap', rfl⟩ := hx.parts
  obtain ⟨t, bd, r, bap, bd', r', bap', rfl⟩ := hy.parts
  obtain ⟨W0, hW0⟩ : ∃ W0, W0 = ((((w.alloc (.cells #[.int .i64 da, .slice ad1 n1 cap1] 24)).alloc (.cells #[.bool s, .slice ad l cap, .slice ad' l' cap'] 35)).alloc (.cells #[.int .i64 db, .slice ad2 n2 cap2] 24)).alloc (.cells #[.bool t, .slice bd r bap, .slice bd' r' bap'] 35)).alloc (.cells #[.int .i64 0, .slice none 0 0] 24) := ⟨_, rfl⟩
  have hz0 : W0.heap.size = w.heap.size + 1 + 1 + 1 + 1 + 1 := by rw [hW0]; simp
  have hb0 : Below w.heap.size w W0 := by rw [hW0]; exact more_below (more_below (more_below (more_below (new_below _ _) _) _) _) _
  have hcell : ∀ W, Below W0.heap.size W0 W → ((W.cell? ⟨w.heap.size, 0, none⟩ = some (.int .i64 da) ∧ W.cell? ⟨w.heap.size, 1, none⟩ = some (.slice ad1 n1 cap1)) ∧ W.cell? ⟨w.heap.size + 1, 0, none⟩ = some (.bool s) ∧ W.cell? ⟨w.heap.size + 1, 1, none⟩ = some (.slice ad l cap) ∧ W.cell? ⟨w.heap.size + 1, 2, none⟩ = some (.slice ad' l' cap')) ∧
      ((W.cell? ⟨w.heap.size + 1 + 1, 0, none⟩ = some (.int .i64 db) ∧ W.cell? ⟨w.heap.size + 1 + 1, 1, none⟩ = some (.slice ad2 n2 cap2)) ∧ W.cell? ⟨w.heap.size + 1 + 1 + 1, 0, none⟩ = some (.bool t) ∧ W.cell? ⟨w.heap.size + 1 + 1 + 1, 1, none⟩ = some (.slice bd r bap) ∧ W.cell? ⟨w.heap.size + 1 + 1 + 1, 2, none⟩ = some (.slice bd' r' bap')) ∧
      (W.cell? ⟨w.heap.size + 1 + 1 + 1 + 1, 0, none⟩ = some (.int .i64 0) ∧ W.cell? ⟨w.heap.size + 1 + 1 + 1 + 1, 1, none⟩ = some (.slice none 0 0) ∧ W.frozen? ⟨w.heap.size + 1 + 1 + 1 + 1, 0, none⟩ = false ∧ W.frozen? ⟨w.heap.size + 1 + 1 + 1 + 1, 1, none⟩ = false) := fun W hbl => by
    rw [hW0] at hbl
    obtain ⟨q0, q1, _, _⟩ := res_past (below_chain (more_below (more_below (more_below (new_below (w.alloc (.cells #[.int .i64 da, .slice ad1 n1 cap1] 24)) (.cells #[.bool s, .slice ad l cap, .slice ad' l' cap'] 35)) (.cells #[.int .i64 db, .slice ad2 n2 cap2] 24)) (.cells #[.bool t, .slice bd r bap, .slice bd' r' bap'] 35)) (.cells #[.int .i64 0, .slice none 0 0] 24)) hbl)
    have q2 := three_new_past (below_chain (more_below (more_below (new_below ((w.alloc (.cells #[.int .i64 da, .slice ad1 n1 cap1] 24)).alloc (.cells #[.bool s, .slice ad l cap, .slice ad' l' cap'] 35)) (.cells #[.int .i64 db, .slice ad2 n2 cap2] 24)) (.cells #[.bool t, .slice bd r bap, .slice bd' r' bap'] 35)) (.cells #[.int .i64 0, .slice none 0 0] 24)) hbl)
    obtain ⟨q3, q4, _, _⟩ := res_past (below_chain (more_below (new_below (((w.alloc (.cells #[.int .i64 da, .slice ad1 n1 cap1] 24)).alloc (.cells #[.bool s, .slice ad l cap, .slice ad' l' cap'] 35)).alloc (.cells #[.int .i64 db, .slice ad2 n2 cap2] 24)) (.cells #[.bool t, .slice bd r bap, .slice bd' r' bap'] 35)) (.cells #[.int .i64 0, .slice none 0 0] 24)) hbl)
    have q5 := three_new_past (below_chain (new_below ((((w.alloc (.cells #[.int .i64 da, .slice ad1 n1 cap1] 24)).alloc (.cells #[.bool s, .slice ad l cap, .slice ad' l' cap'] 35)).alloc (.cells #[.int .i64 db, .slice ad2 n2 cap2] 24)).alloc (.cells #[.bool t, .slice bd r bap, .slice bd' r' bap'] 35)) (.cells #[.int .i64 0, .slice none 0 0] 24)) hbl)
    have q6 := res_past hbl
    simp only [World.size_alloc] at q2 q3 q4 q5 q6
    exact ⟨⟨⟨q0, q1⟩, q2⟩, ⟨⟨q3, q4⟩, q5⟩, q6⟩
  have hwd : WideAt (w.heap.size + 1 + 1 + 1 + 1 + 1) M (W0.alloc (.cells #[.slice none 0 0, .slice none 0 0] 61)) (w.heap.size + 1 + 1 + 1 + 1 + 1) (.slice none 0 0) (.slice none 0 0) [] :=
    ⟨Nat.le_refl _, by rw [← hz0]; simp, by rw [← hz0]; simp, by rw [← hz0]; simp, by rw [← hz0]; simp, World.ownsRow_nil _ _ _ _, World.ownsRow_nil _ _ _ _, (fun e he => by cases he), fun _ => ⟨rfl, rfl⟩⟩
  have hb1' := below_chain hb0 (new_below W0 (.cells #[.slice none 0 0, .slice none 0 0] 61))
  have hlog1 := WLog_any (w.heap.size + 1 + 1 + 1 + 1 + 1) M (w.heap.size + 1 + 1 + 1 + 1 + 1) da xd m1 xn _ _ _ ad1 n1 cap1 p1 c1 [] k0 _ hwd (hl1.later hb1') (hx.later hb1') hM1 hM0 List.Pairwise.nil (by simp; omega) hpc1 hda hxn hF1 (fun x k hk => by simpa [absL, atL] using hb1 x k hk) hbM hk3 hk0
  have HB0 := Hid.mk' hb0
  have HC := Hid.mk' hcell
  have HZ0 := Hid.mk' hz0
  have HW0 := Hid.mk' hW0
  have HL2 := Hid.mk' (hl2.later hb1')
  have HY := Hid.mk' (hy.later hb1')
  have HB1 := Hid.mk' (new_below W0 (.cells #[.slice none 0 0, .slice none 0 0] 61))
  obtain ⟨⟨⟨a0, a1⟩, a2, a3, a4⟩, _, _⟩ := hcell _ (new_below W0 (.cells #[.slice none 0 0, .slice none 0 0] 61))
  have HM2 := Hid.mk' hM2
  have HP2 := Hid.mk' hpc2
  have HF2 := Hid.mk' hF2
  have HBB := Hid.mk' hb2
  have HBA := Hid.mk' hb1
  clear hb0 hcell hwd hW0 hl1 hl2 hx hy hM1 hM2 hpc1 hpc2 hF1 hF2 hb1 hb2 hb1'
  go_enter Tryz.func9, Tryz.ntmps9
  go_upto_region 1 with fail
  rw [← HW0.out]
  go_upto_region 2 with fail
  obtain ⟨W1, hW1⟩ : ∃ W1, W1 = W0.alloc (.cells #[.slice none 0 0, .slice none 0 0] 61) := ⟨_, rfl⟩
  rw [← hW1] at hlog1 HL2 HY HB1 a0 a1 a2 a3 a4 ⊢
  clear hW1 hz0
  go_wp2_with fail
  refine hlog1.mono ?_
  clear hlog1 a0 a1 a2 a3 a4
  rintro e w2 ⟨rfl, vp2, vc2, L2, hi2⟩
  have hb02 : Below W0.heap.size W0 w2 := HB1.out.trans (hi2.below.mono (Nat.le_of_eq HZ0.out))
  have hlen2 := hi2.len
  simp at hlen2
  have HV2 : Hid (∀ x, atL (absL L2) x = xn * m1 * sumAt p1 c1 x n1) := fun x => by simpa [absL, atL] using hi2.val x
  have hlog2 := WLog_any (w.heap.size + 1 + 1 + 1 + 1 + 1) M (w.heap.size + 1 + 1 + 1 + 1 + 1) db yd m2 yn _ vp2 vc2 ad2 n2 cap2 p2 c2 L2 k0 w2 hi2.wide (HL2.out.kept hi2.kept) (HY.out.kept hi2.kept) HM2.out hM0 hi2.rise (by omega) HP2.out hdb hyn HF2.out (fun x k hk => by rw [HV2.out x]; exact HBB.out x k hk) hbM hk3 hk0
  obtain ⟨_, ⟨⟨a0, a1⟩, a2, a3, a4⟩, _⟩ := HC.out w2 hb02
  have HB2 := Hid.mk' hb02
  clear hi2 hb02 HM2 HP2 HF2
  go_wp2_with fail
  refine hlog2.mono ?_
  clear hlog2 a0 a1 a2 a3 a4
  rintro e w3 ⟨rfl, vp3, vc3, L3, hi3⟩
  have hb03 : Below W0.heap.size W0 w3 := HB2.out.trans (hi3.below.mono (Nat.le_of_eq HZ0.out))
  have hlen3 := hi3.len
  have HV3 : Hid (∀ x, atL (absL L3) x = xn * m1 * sumAt p1 c1 x n1 + yn * m2 * sumAt p2 c2 x n2) := fun x => by rw [hi3.val x, HV2.out x]
  obtain ⟨adp, capp, hvp⟩ : ∃ ad c, vp3 = .slice ad L3.length c := by
    rcases hi3.wide.P.2 with ⟨rfl, h0⟩ | ⟨g, cap, cur, rfl, _⟩
    · exact ⟨none, 0, by rw [h0]⟩
    · exact ⟨_, _, rfl⟩
  obtain ⟨adc, capc, hvc⟩ : ∃ ad c, vc3 = .slice ad L3.length c := by
    rcases hi3.wide.C.2 with ⟨rfl, h0⟩ | ⟨g, cap, cur, rfl, _⟩
    · exact ⟨none, 0, by rw [h0]⟩
    · exact ⟨_, _, rfl⟩
  have hwd3 := hi3.wide
  rw [hvp, hvc] at hwd3
  obtain ⟨fits, hfits⟩ := bool_of (FitsW M (gList M (zsOf L3)) L3)
  have htold := WTold_any (w.heap.size + 1 + 1 + 1 + 1 + 1) M (w.heap.size + 1 + 1 + 1 + 1 + 1) adp adc capp capc L3 k0 (gList M (zsOf L3)) fits w3 hwd3 hM0 (by omega) (hi3.coef (fun x => by rw [HV2.out x]; exact HBB.out x n2 (Nat.le_refl _))) hbM hk0 hk3 rfl hfits
  have HR3 := Hid.mk' hi3.rise
  have HFI := Hid.mk' hfits
  have HB3 := Hid.mk' hb03
  clear hwd3 hvp hvc hi3 hb03 hfits HV2 HL2 HY HB1 HB2 HBA HBB
  go_wp2_with fail
  refine htold.mono ?_
  clear htold
  rintro e w7 ⟨h7, hb7⟩
  obtain ⟨_, _, z0, z1, f0, f1⟩ := HC.out w7 (below_chain HB3.out hb7)
  have hsz : w.heap.size + 1 + 1 + 1 + 1 < w3.heap.size := by have h1 := HB3.out.size; have h2 := HZ0.out; omega
  have HB8 := Hid.mk' (below_chain HB0.out (below_chain HB3.out hb7))
  clear hb7 HC
  rcases h7 with ⟨hft, v, rfl, hrow⟩ | ⟨hff, rfl⟩
  · obtain ⟨ad, n', c', rfl⟩ : ∃ ad n' c', v = .slice ad n' c' := by
      rcases hrow.2 with ⟨rfl, _⟩ | ⟨gg, cap', cur', rfl, _⟩
      · exact ⟨_, _, _, rfl⟩
      · exact ⟨_, _, _, rfl⟩
    have HRW := Hid.mk' hrow
    clear hrow
    generalize hdn : ((M / gList M (zsOf L3) : Nat) : Int) = dn
    have HDN := Hid.mk' hdn
    clear hdn
    go_wp2_with fail
    refine bodyPost_ret (v := .tuple #[.agg #[.int .i64 dn, .slice ad n' c'], .int .i64 0]) (by simp [results, Tryz.results9, go_sem, z0, z1]) rfl ⟨absL L3, dn, ad, n', c', 0, rfl, HR3.out, HV3.out, by rw [absL_length]; omega, Or.inl ?_, (HB8.out.setCell (by simp; omega) _).setCell (by simp; omega) _⟩
    have h1 := ownsRow_setCell_below HRW.out (a := ⟨w.heap.size + 1 + 1 + 1 + 1, 0, none⟩) (by show w.heap.size + 1 + 1 + 1 + 1 < _; omega) (.int .i64 dn)
    have h2 := ownsRow_setCell_below h1 (a := ⟨w.heap.size + 1 + 1 + 1 + 1, 1, none⟩) (by show w.heap.size + 1 + 1 + 1 + 1 < _; omega) (.slice ad n' c')
    rw [flat_cells] at h2
    rw [← zs_abs]
    exact ⟨(fits_iff _ _ _).1 (HFI.out.1 hft), HDN.out.symm, rfl, ownAt_of_row h2⟩
  · go_wp2_with fail
    refine bodyPost_ret (v := .tuple #[.agg #[.int .i64 0, .slice none 0 0], .int .i64 2]) (by simp [results, Tryz.results9, go_sem, z0, z1]) rfl ⟨absL L3, 0, none, 0, 0, 2, rfl, HR3.out, HV3.out, by rw [absL_length]; omega, Or.inr ?_, (HB8.out.setCell (by simp; omega) _).setCell (by simp; omega) _⟩
    rw [← zs_abs]
    refine ⟨fun h => ?_, rfl, rfl, rfl⟩
    have := HFI.out.2 ((fits_iff _ _ _).2 h)
    rw [hff] at this
    cases this
end Go.Proofs.YtiecbconcdncmabGreatDoor
