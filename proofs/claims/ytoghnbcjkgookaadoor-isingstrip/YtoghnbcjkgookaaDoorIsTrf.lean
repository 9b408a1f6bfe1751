/- ising.transfer. -/
import Derived.Test.YtoghnbcjkgookaaDoorIsAdd
namespace Go.Proofs.YtoghnbcjkgookaaDoor
open Go.RowKit

/-- What a column has of the first b columns ahead. -/
def paF (T h first t c b k : Nat) : Nat := suF (fun b => shf (trF btw (wth h) T first t b) (btw b c + wth h c) k) b
theorem paF_le (T h first t c k : Nat) {b : Nat} (hb : b ≤ T) : paF T h first t c b k ≤ T * T ^ t := by
  have h1 := suF_mono (fun b => shf (trF btw (wth h) T first t b) (btw b c + wth h c) k) hb
  have h2 : suF (fun b => shf (trF btw (wth h) T first t b) (btw b c + wth h c) k) T ≤ suF (fun _ => T ^ t) T := suF_le fun b _ => shf_le (trF_le btw (wth h) T first t b) _ _
  rw [suF_const] at h2
  exact Nat.le_trans h1 h2
/-- The next columns, while they are filled: the first c of them whole, c itself up to b. -/
def nxF (T h first t c b c' k : Nat) : Nat := if c' < c then trF btw (wth h) T first (t + 1) c' k else if c' = c then paF T h first t c b k else 0
theorem pow_small {T t : Nat} (hT : T ≤ 16) (ht : t ≤ 11) : T ^ t ≤ 2 ^ 44 := by
  have h1 : T ^ t ≤ 16 ^ t := Nat.pow_le_pow_left hT t
  have h2 : 16 ^ t ≤ 16 ^ 11 := Nat.pow_le_pow_right (by decide) ht
  have h3 : 16 ^ 11 = 2 ^ 44 := by decide
  omega

set_option maxRecDepth 100000 in
set_option maxHeartbeats 8000000 in
theorem transfer_any (h l sz first : Nat) (w : World) (hh1 : 1 ≤ h) (hh : h ≤ 4) (hl1 : 1 ≤ l) (hl : l ≤ 12) (hsz : sz ≤ 200) (hs4 : 4 ≤ sz ∨ h ≤ sz) (hf : first < 2 ^ h) :
    Calls Tryd.prog 35 #[.int .i64 first, .int .i64 h, .int .i64 l, .int .i64 sz] w fun e w' => ∃ g rb, e = .returned (.slice (some ⟨g, 0, none⟩) (2 ^ h) (2 ^ h)) ∧ GridB w w' g (2 ^ h) sz (2 ^ h) rb (fun c k => .int .i64 ((trF btw (wth h) (2 ^ h) first (l - 1) c k : Nat) : Int)) := by
  have HT : Hid (2 ^ h ≤ 16) := Nat.pow_le_pow_right (n := 2) (by decide) hh
  have HWL := Hid.mk' ((wth_low h (by omega) hh1).1)
  have HNS := Hid.mk' (fun W => noStates_any h sz W hh hsz)
  have HWI : Hid (∀ (c : Nat) (W : World), c < 2 ^ h → Calls Tryd.prog 47 #[.int .i64 c, .int .i64 h] W fun e w' => e = .returned (.int .i64 (wth h c : Nat)) ∧ w' = W) := fun c W hc => within_any c h (by have := HT.out; omega) hh1 hh W
  have HBW : Hid (∀ (a b : Nat) (W : World), a < 2 ^ h → b < 2 ^ h → Calls Tryd.prog 36 #[.int .i64 a, .int .i64 b] W fun e w' => e = .returned (.int .i64 (btw a b : Nat)) ∧ w' = W) := fun a b W ha hb => between_any a b (by have := HT.out; omega) (by have := HT.out; omega) W
  have HBL : Hid (∀ a b : Nat, a < 2 ^ h → b < 2 ^ h → btw a b ≤ 4) := fun a b ha hb => Nat.le_trans (btw_low h (by omega) a ha b hb).1 hh
  have HTP : Hid (1 ≤ 2 ^ h) := Nat.one_le_two_pow
  obtain ⟨T, hT2⟩ : ∃ T : Nat, T = 2 ^ h := ⟨_, rfl⟩
  rw [← hT2] at HT HWL HNS HWI HBW HBL HTP hf ⊢
  clear hT2
  have hT16 : T ≤ 16 := HT.out
  have hhI : (h : Int) ≤ 4 := by omega
  have hlI : (l : Int) ≤ 12 := by omega
  have hl0 : (1 : Int) ≤ (l : Int) := by omega
  have hszI : (sz : Int) ≤ 200 := by omega
  have hfI : (first : Int) < (T : Int) := by omega
  have hf0 : (0 : Int) ≤ (first : Int) := by omega
  have hwf := HWL.out first hf
  have hwfs : wth h first < sz := by omega
  go_enter Tryd.func35, Tryd.ntmps35
  go_wp2_with fail
  refine (HNS.out _).mono ?_
  rintro e w2 ⟨g, rb, rfl, hg2⟩
  have hmd := hg2.made first hf
  have hcw := (hg2.rows first hf).row (wth h first) hwfs
  have hfw := (hg2.rows first hf).fz (wth h first) hwfs
  have HN2 : Hid (GridB w (w2.setCell ⟨rb first, wth h first, none⟩ (.int .i64 1)) g T sz T rb (fun c k => .int .i64 ((trF btw (wth h) T first 0 c k : Nat) : Int))) := hg2.set hf hwfs (.int .i64 1) (fun c k _ _ => by
    show Value.int .i64 (((if c = first ∧ k = wth h first then 1 else 0 : Nat)) : Int) = _
    split <;> rfl)
  have HWF := Hid.mk' (fun W => HWI.out first W hf)
  have hwI : ((wth h first : Nat) : Int) < (sz : Int) := by omega
  have hw0 : (0 : Int) ≤ ((wth h first : Nat) : Int) := by omega
  have HNE : Hid (rb first ≠ g) := (hg2.rge first hf).2.1
  clear hg2
  generalize hwq : wth h first = wf at HN2 HWF hwI hw0 hcw hfw
  have HB2 : Hid (∀ W, Below w2.heap.size w2 W → W.cell? ⟨g, first, none⟩ = some (.slice (some ⟨rb first, 0, none⟩) sz sz)) := fun W hb => by rw [hb.cell (cell_lt hmd)]; exact hmd
  clear hwq
  go_wp2_with fail
  have HS8 : Hid ((w2.setCell ⟨rb first, wf, none⟩ (.int .i64 1)).drew.cell? ⟨g, first, none⟩ = some (.slice (some ⟨rb first, 0, none⟩) sz sz)) := by
    show (w2.setCell ⟨rb first, wf, none⟩ (.int .i64 1)).cell? ⟨g, first, none⟩ = _
    rw [World.cell?_setCell_other _ _ _ _ (fun e => HNE.out (congrArg Addr.block e))]
    exact HB2.out _ (Below.refl _ _)
  have hcur0 : Below w2.heap.size w2 w2 := Below.refl _ _
  have hcur : Below w2.heap.size w2 w2.drew := hcur0.drew
  go_region_held3 (fun W => W.cell? ⟨g, first, none⟩ = some (.slice (some ⟨rb first, 0, none⟩) sz sz))
    (first | exact HB2.out _ hcur0 | exact HB2.out _ hcur | exact HS8.out)
    (first | (go_at_call 47; refine (HWF.out _).mono ?_; rintro e w5 ⟨rfl, hw5⟩; rw [hw5]; clear hw5))
  have HN3 := Hid.mk' HN2.out.drewN
  generalize (w2.setCell ⟨rb first, wf, none⟩ (.int .i64 1)).drew = W3 at HN3 ⊢
  clear hcur hcur0 HS8 HB2 HN2 hcw hfw hmd HNE
  go_wp2_with fail
  go_loopw [9, 27] (fun nv tv wr => ∃ (t g : Nat) (rb : Nat → Nat), t ≤ l - 1 ∧ tv = .int .i64 t ∧ nv = .slice (some ⟨g, 0, none⟩) T T ∧ Hid (GridB w wr g T sz T rb (fun c k => .int .i64 ((trF btw (wth h) T first t c k : Nat) : Int)))) (fun _ tv _ => l - 1 - (intOf tv).toNat)
  case atStart => exact ⟨0, g, rb, Nat.zero_le _, rfl, rfl, HN3⟩
  case round =>
    clear HN3 HWF
    obtain ⟨t, gn, rn, ht, rfl, rfl, HNOW⟩ := hrel
    have ht0 : (0 : Int) ≤ (t : Int) := by omega
    rcases Nat.lt_or_ge t (l - 1) with h1 | h1
    · have htI : (t : Int) < (l : Int) - 1 := by omega
      obtain ⟨Wo, hWo⟩ : ∃ Wo, Wo = wr := ⟨_, rfl⟩
      rw [← hWo] at HNOW ⊢
      clear hWo
      go_wp2_with fail
      refine (HNS.out _).mono ?_
      rintro e w4 ⟨g4, r4, rfl, hg4⟩
      have HG4 : Hid (GridB Wo w4 g4 T sz T r4 (fun c' k => .int .i64 ((nxF T h first t 0 0 c' k : Nat) : Int))) := hg4.cast fun c' k _ _ => by
        rw [nxF, if_neg (Nat.not_lt_zero _)]
        split <;> rfl
      clear hg4
      go_wp2_with fail
      go_loopw [34] (fun cv wx => ∃ c : Nat, c ≤ T ∧ cv = .int .i64 c ∧ Hid (GridB Wo wx g4 T sz T r4 (fun c' k => .int .i64 ((nxF T h first t c 0 c' k : Nat) : Int)))) (fun cv _ => T - (intOf cv).toNat)
      case atStart => exact ⟨0, Nat.zero_le _, rfl, HG4⟩
      case round =>
        clear HG4
        obtain ⟨c, hc, rfl, HGC⟩ := hrel
        have hc0 : (0 : Int) ≤ (c : Int) := by omega
        rcases Nat.lt_or_ge c T with h2 | h2
        · have hcI : (c : Int) < (T : Int) := by omega
          have hmd := HGC.out.made c h2
          go_wp2_with fail
          clear hmd
          go_loopw [41] (fun bv wx => ∃ b : Nat, b ≤ T ∧ bv = .int .i64 b ∧ Hid (GridB Wo wx g4 T sz T r4 (fun c' k => .int .i64 ((nxF T h first t c b c' k : Nat) : Int)))) (fun bv _ => T - (intOf bv).toNat)
          case atStart => exact ⟨0, Nat.zero_le _, rfl, HGC⟩
          case round =>
            clear HGC
            obtain ⟨b, hb, rfl, HGB⟩ := hrel
            have hb0 : (0 : Int) ≤ (b : Int) := by omega
            rcases Nat.lt_or_ge b T with h3 | h3
            · have hbI : (b : Int) < (T : Int) := by omega
              have hbl := HBL.out b c h3 h2
              have hwl := HWL.out c h2
              have HNB := Hid.mk' (HNOW.out.later HGB.out.below)
              have hcell := HNB.out.made b h3
              have hrge := (HNOW.out.rge b h3).2.2
              have hr4 := (HGB.out.rge c h2).1
              have hglt : gn < Wo.heap.size := by obtain ⟨x, hx⟩ := HNOW.out.outer b h3; exact cell_lt hx
              have HP2 : Hid (T * T ^ t ≤ 2 ^ 60) := by
                have a1 := pow_small hT16 (show t ≤ 11 by omega)
                have a2 : T * T ^ t ≤ 16 * 2 ^ 44 := Nat.mul_le_mul hT16 a1
                have a3 : 16 * 2 ^ 44 ≤ 2 ^ 60 := by decide
                exact Nat.le_trans a2 a3
              have HP3 : Hid (T ^ t ≤ 2 ^ 60) := Nat.le_trans (pow_small hT16 (show t ≤ 11 by omega)) (by decide)
              have HAD : Hid (∀ V, Below wr.heap.size wr V → Calls Tryd.prog 37 #[.slice (some ⟨r4 c, 0, none⟩) sz sz, .slice (some ⟨rn b, 0, none⟩) sz sz, .int .i64 ((btw b c + wth h c : Nat) : Int)] V fun e w' => e = .returned (.tuple #[]) ∧ GridB Wo w' g4 T sz T r4 (fun c' k => .int .i64 ((nxF T h first t c (b + 1) c' k : Nat) : Int)) ∧ RowPut (r4 c) V w') := fun V hV => by
                have hGV := HGB.out.later hV
                have hNV := HNB.out.later hV
                refine (addShifted_any (r4 c) (rn b) sz (btw b c + wth h c) (paF T h first t c b) (trF btw (wth h) T first t b) V ⟨fun k hk => ?_, (hGV.rows c h2).fz⟩ (hNV.rows b h3) (by omega) hsz (by omega) (fun k => Nat.le_trans (paF_le T h first t c k hb) HP2.out) (fun k => Nat.le_trans (trF_le _ _ _ _ _ _ _) HP3.out)).mono ?_
                · have h9 := (hGV.rows c h2).row k hk
                  rw [nxF, if_neg (Nat.lt_irrefl _), if_pos rfl] at h9
                  exact h9
                · rintro e w' ⟨he, hr, hp⟩
                  refine ⟨he, (hGV.turn h2 hp hr).cast fun c' k _ _ => ?_, hp⟩
                  by_cases e1 : c' = c
                  · subst e1
                    rw [if_pos rfl, nxF, if_neg (Nat.lt_irrefl _), if_pos rfl]
                    rfl
                  · rw [if_neg e1]
                    unfold nxF
                    rw [if_neg e1, if_neg e1]
              have HX : Hid (∀ V, Below wr.heap.size wr V → V.cell? ⟨gn, b, none⟩ = some (.slice (some ⟨rn b, 0, none⟩) sz sz)) := fun V hV => by rw [hV.cell (cell_lt hcell)]; exact hcell
              have HBB := Hid.mk' (fun W => HBW.out b c W h3 h2)
              have HWW := Hid.mk' (fun W => HWI.out c W h2)
              have HNEQ : Hid (gn ≠ r4 c) := by show gn ≠ r4 c; omega
              generalize btw b c = bc at HAD HBB hbl
              generalize wth h c = wc at HAD HWW hwl
              have hsm : (bc : Int) + (wc : Int) ≤ 8 := by omega
              have hbc0 : (0 : Int) ≤ (bc : Int) := by omega
              have hwc0 : (0 : Int) ≤ (wc : Int) := by omega
              have hwr : IntKind.i64.wrap ((bc : Int) + (wc : Int)) = (bc : Int) + (wc : Int) := by have := i64_low (bc + wc) (by omega); rw [Int.natCast_add] at this; exact this
              rw [show ((bc + wc : Nat) : Int) = (bc : Int) + (wc : Int) by omega] at HAD
              have HCELL := Hid.mk' hcell
              clear HNB hcell hrge hr4 hglt HGB
              go_wp2_with fail
              have hcur0 : Below wr.heap.size wr wr := Below.refl _ _
              have hcur : Below wr.heap.size wr wr.drew := hcur0.drew
              go_region_held3 (fun W => W.cell? ⟨gn, b, none⟩ = some (.slice (some ⟨rn b, 0, none⟩) sz sz))
                (first | exact HX.out _ hcur0 | exact HX.out _ hcur | exact hS5)
                (first
                  | (go_at_call 37; refine (HAD.out _ hcur).mono ?_; rintro e w5 ⟨rfl, hg5, hp5⟩; have hS5 : w5.cell? ⟨gn, b, none⟩ = some (.slice (some ⟨rn b, 0, none⟩) sz sz) := hp5.cell (HX.out _ hcur) HNEQ.out)
                  | (go_at_call 47; refine (HWW.out _).mono ?_; rintro e w5 ⟨rfl, hw5⟩; rw [hw5]; clear hw5)
                  | (go_at_call 36; refine (HBB.out _).mono ?_; rintro e w5 ⟨rfl, hw5⟩; rw [hw5]; clear hw5))
              have HG5 := Hid.mk' hg5
              clear hg5 hp5 hS5 hcur hcur0
              go_wp2_with fail
              exact ⟨⟨b + 1, h3, by go_num, HG5⟩, by simp [intOf]; omega⟩
            · obtain rfl : b = T := by omega
              have hbI : ¬ ((b : Int) < (b : Int)) := by omega
              go_wp2_with fail
              refine ⟨⟨c + 1, h2, by go_num, Hid.mk' (HGB.out.cast fun c' k _ _ => ?_)⟩, by simp [intOf]; omega⟩
              congr 2
              unfold nxF
              by_cases e1 : c' < c
              · rw [if_pos e1, if_pos (by omega)]
              · rw [if_neg e1]
                by_cases e2 : c' = c
                · subst e2
                  rw [if_pos rfl, if_pos (Nat.lt_succ_self _)]
                  rfl
                · rw [if_neg e2, if_neg (by omega)]
                  split <;> rfl
        · obtain rfl : c = T := by omega
          have hcI : ¬ ((c : Int) < (c : Int)) := by omega
          have HGN : Hid (GridB w wr g4 c sz c r4 (fun c' k => .int .i64 ((trF btw (wth h) c first (t + 1) c' k : Nat) : Int))) := (HGC.out.base HNOW.out.below).cast fun c' k hc' _ => by rw [nxF, if_pos hc']
          go_wp2_with fail
          exact ⟨⟨t + 1, g4, r4, h1, by go_num, rfl, HGN⟩, by simp [intOf]; omega⟩
    · obtain rfl : t = l - 1 := by omega
      have htI : ¬ (((l - 1 : Nat) : Int) < (l : Int) - 1) := by omega
      go_wp2_with fail
      go_ret
      first | exact ⟨_, rn, rfl, HNOW.out⟩ | exact ⟨_, rfl, rn, HNOW.out⟩
end Go.Proofs.YtoghnbcjkgookaaDoor
