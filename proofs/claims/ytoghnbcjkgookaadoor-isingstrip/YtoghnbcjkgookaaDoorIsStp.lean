/- ising.Strip; the document's Sum. -/
import Derived.Test.YtoghnbcjkgookaaDoorIsTrf
import Derived.Test.YtoghnbcjkgookaaDoorIsSame
namespace Go.Proofs.YtoghnbcjkgookaaDoor
open Go.RowKit

/-- The sum so far: whole first columns, and of one its last columns so far. -/
def soF (T h t : Nat) (ring : Bool) (n k : Nat) : Nat := suF (fun first => suF (fun last => shf (trF btw (wth h) T first t last) (clo ring last first) k) T) n
def siF (T h t first : Nat) (ring : Bool) (n k : Nat) : Nat := suF (fun last => shf (trF btw (wth h) T first t last) (clo ring last first) k) n
theorem siF_le (T h t first : Nat) (ring : Bool) (k : Nat) {n : Nat} (hn : n ≤ T) : siF T h t first ring n k ≤ T * T ^ t := by
  have h1 := suF_mono (fun last => shf (trF btw (wth h) T first t last) (clo ring last first) k) hn
  have h2 : suF (fun last => shf (trF btw (wth h) T first t last) (clo ring last first) k) T ≤ suF (fun _ => T ^ t) T := suF_le fun last _ => shf_le (trF_le btw (wth h) T first t last) _ _
  rw [suF_const] at h2
  exact Nat.le_trans h1 h2
theorem soF_le (T h t : Nat) (ring : Bool) (k : Nat) {n : Nat} (hn : n ≤ T) : soF T h t ring n k ≤ T * (T * T ^ t) := by
  have h1 := suF_mono (fun first => suF (fun last => shf (trF btw (wth h) T first t last) (clo ring last first) k) T) hn
  exact Nat.le_trans h1 (stO_le btw (wth h) (clo ring) T t k)

theorem cbN_le {h l : Nat} {ring : Bool} (hh : h ≤ 4) (hl : l ≤ 12) : cbN h l ring ≤ 84 := by
  unfold cbN
  have h1 : l * (h - 1) ≤ 12 * 3 := Nat.mul_le_mul hl (by omega)
  have h2 : (if ring then l else l - 1) * h ≤ 12 * 4 := Nat.mul_le_mul (by split <;> omega) hh
  omega
theorem countBonds_any (h l : Nat) (ring : Bool) (w : World) (hh1 : 1 ≤ h) (hh : h ≤ 4) (hl1 : 1 ≤ l) (hl : l ≤ 12) :
    Calls Tryd.prog 34 #[.int .i64 h, .int .i64 l, .bool ring] w fun e w' => e = .returned (.int .i64 (cbN h l ring : Nat)) ∧ w' = w := by
  have hhI : (h : Int) ≤ 4 := by omega
  have hlI : (l : Int) ≤ 12 := by omega
  have hh0 : (1 : Int) ≤ (h : Int) := by omega
  have hl0 : (1 : Int) ≤ (l : Int) := by omega
  obtain ⟨X, hX⟩ : ∃ X : Nat, X = l * (h - 1) := ⟨_, rfl⟩
  have hX36 : X ≤ 36 := by rw [hX]; exact Nat.mul_le_mul hl (show h - 1 ≤ 3 by omega)
  have eX : (l : Int) * ((h : Int) - 1) = (X : Int) := by rw [hX, show (h : Int) - 1 = ((h - 1 : Nat) : Int) by omega]; simp
  cases ring with
  | true =>
    obtain ⟨Y, hY⟩ : ∃ Y : Nat, Y = l * h := ⟨_, rfl⟩
    have hY48 : Y ≤ 48 := by rw [hY]; exact Nat.mul_le_mul hl hh
    have eY : (l : Int) * (h : Int) = (Y : Int) := by rw [hY]; simp
    have HR : Hid (cbN h l true = X + Y) := by show _ = _; rw [cbN, if_pos rfl, ← hX, ← hY]
    clear hX hY
    go_enter Tryd.func34, Tryd.ntmps34
    go_wp2_with fail
    go_ret
    exact ⟨by rw [HR.out]; first | rfl | (rw [Int.natCast_add]; rfl), rfl⟩
  | false =>
    obtain ⟨Y, hY⟩ : ∃ Y : Nat, Y = (l - 1) * h := ⟨_, rfl⟩
    have hY48 : Y ≤ 48 := by rw [hY]; exact Nat.mul_le_mul (show l - 1 ≤ 12 by omega) hh
    have eY : ((l : Int) - 1) * (h : Int) = (Y : Int) := by rw [hY, show (l : Int) - 1 = ((l - 1 : Nat) : Int) by omega]; simp
    have HR : Hid (cbN h l false = X + Y) := by show _ = _; rw [cbN, if_neg (by decide), ← hX, ← hY]
    clear hX hY
    go_enter Tryd.func34, Tryd.ntmps34
    go_wp2_with fail
    go_ret
    exact ⟨by rw [HR.out]; first | rfl | (rw [Int.natCast_add]; rfl), rfl⟩

theorem Strip_no (a : Nat → Addr) (h l : Int) (ring : Bool) (w : World) (hE : Errs w a) (hb : ¬ fitsP h l) :
    Calls Tryd.prog 21 #[.int .i64 h, .int .i64 l, .bool ring] w fun e w' => e = .returned (.tuple #[.slice none 0 0, errV a 2]) ∧ Below w.heap.size w w' := by
  have HF := Hid.mk' (fits_no h l w hb)
  have eB := hE.c1
  have HR2 : Hid (errV a 2 = .iface 106 (.pointer (some (a 1)))) := rfl
  rw [HR2.out]
  clear hE hb
  go_enter Tryd.func21, Tryd.ntmps21
  go_wp2_with fail
  refine HF.out.mono ?_
  rintro e w2 ⟨rfl, hw2⟩
  rw [hw2]
  clear hw2 HF
  go_wp2_with fail
  go_quiet (fail)
  go_wp2_with fail
  go_ret2
  exact ⟨rfl, below_drewN (Below.refl _ _) _⟩
theorem Strip_small (a : Nat → Addr) (h l : Int) (w : World) (hE : Errs w a) (hf : fitsP h l) (hl : l < 3) :
    Calls Tryd.prog 21 #[.int .i64 h, .int .i64 l, .bool true] w fun e w' => e = .returned (.tuple #[.slice none 0 0, errV a 3]) ∧ Below w.heap.size w w' := by
  have HF := Hid.mk' (fits_yes h l w hf.1 hf.2.1 hf.2.2.1 hf.2.2.2)
  have eB := hE.c2
  have HR2 : Hid (errV a 3 = .iface 106 (.pointer (some (a 2)))) := rfl
  have hld : decide (l < 3) = true := decide_eq_true hl
  rw [HR2.out]
  clear hE hf
  go_enter Tryd.func21, Tryd.ntmps21
  go_wp2_with fail
  refine HF.out.mono ?_
  rintro e w2 ⟨rfl, hw2⟩
  rw [hw2]
  clear hw2 HF
  go_wp2_with fail
  go_quiet (fail)
  go_wp2_with fail
  go_ret2
  exact ⟨rfl, below_drewN (Below.refl _ _) _⟩

set_option maxRecDepth 100000 in
set_option maxHeartbeats 8000000 in
theorem Strip_ok (h l : Nat) (ring : Bool) (w : World) (hh1 : 1 ≤ h) (hh : h ≤ 4) (hl1 : 1 ≤ l) (hl : l ≤ 12) (hr : ring = true → 3 ≤ l) :
    Calls Tryd.prog 21 #[.int .i64 h, .int .i64 l, .bool ring] w fun e w' => ∃ g, e = .returned (.tuple #[.slice (some ⟨g, 0, none⟩) (cbN h l ring + 1) (cbN h l ring + 1), .nilIface]) ∧ Fills w w' g (cbN h l ring + 1) (fun k => ((spN h l ring k : Nat) : Int)) := by
  obtain ⟨i0, hi, hz0, hz1, hz2⟩ := info_parts Tryd.infoInt
  have HINF : Hid (Tryd.prog.info? 3 = some i0 ∧ i0.zero = some (.int .i64 0) ∧ i0.size = 1 ∧ i0.bytes = 8) := ⟨hi, hz0, hz1, hz2⟩
  clear hi hz0 hz1 hz2
  have HFI := Hid.mk' (fits_yes h l w (by omega) (by omega) (by omega) (by omega))
  have HCB := Hid.mk' (countBonds_any h l ring w hh1 hh hl1 hl)
  have hcb := cbN_le (ring := ring) hh hl
  have HT : Hid (2 ^ h ≤ 16) := Nat.pow_le_pow_right (n := 2) (by decide) hh
  have hH : h ≤ cbN h l ring + 1 := by
    have h9 := (wth_low h (by omega) hh1).1
    have : l * (h - 1) ≥ 1 * (h - 1) := Nat.mul_le_mul_right _ hl1
    unfold cbN
    omega
  have HTR : Hid (∀ (first : Nat) (W : World), first < 2 ^ h → Calls Tryd.prog 35 #[.int .i64 first, .int .i64 h, .int .i64 l, .int .i64 ((cbN h l ring + 1 : Nat) : Int)] W fun e w' => ∃ g rb, e = .returned (.slice (some ⟨g, 0, none⟩) (2 ^ h) (2 ^ h)) ∧ GridB W w' g (2 ^ h) (cbN h l ring + 1) (2 ^ h) rb (fun c k => .int .i64 ((trF btw (wth h) (2 ^ h) first (l - 1) c k : Nat) : Int))) := fun first W hf => transfer_any h l (cbN h l ring + 1) first W hh1 hh hl1 hl (by omega) (Or.inr hH) hf
  have HBW : Hid (∀ (x y : Nat) (W : World), x < 2 ^ h → y < 2 ^ h → Calls Tryd.prog 36 #[.int .i64 x, .int .i64 y] W fun e w' => e = .returned (.int .i64 (btw x y : Nat)) ∧ w' = W) := fun x y W hx hy => between_any x y (by have := HT.out; omega) (by have := HT.out; omega) W
  have HBL : Hid (∀ x y : Nat, x < 2 ^ h → y < 2 ^ h → btw x y ≤ 4) := fun x y hx hy => Nat.le_trans (btw_low h (by omega) x hx y hy).1 hh
  have HEND : Hid (∀ k, spN h l ring k = soF (2 ^ h) h (l - 1) ring (2 ^ h) k) := fun k => rfl
  obtain ⟨T, hT2⟩ : ∃ T : Nat, T = 2 ^ h := ⟨_, rfl⟩
  have hsh : IntKind.i64.wrap (2 ^ h : Int) = (T : Int) := by rw [shl_wrap h (by omega), hT2]; simp
  rw [← hT2] at HT HTR HBW HBL HEND
  have hT16 : T ≤ 16 := HT.out
  clear hT2 hH
  obtain ⟨t, ht⟩ : ∃ t, t = l - 1 := ⟨_, rfl⟩
  have ht11 : t ≤ 11 := by omega
  rw [← ht] at HTR HEND
  clear ht
  have HP3 : Hid (T ^ t ≤ 2 ^ 60) := Nat.le_trans (pow_small hT16 ht11) (by decide)
  have HP4 : Hid (T * (T * T ^ t) + T * T ^ t ≤ 2 ^ 60) := by
    have a1 := pow_small hT16 ht11
    have a2 : T * T ^ t ≤ 16 * 2 ^ 44 := Nat.mul_le_mul hT16 a1
    have a3 : T * (T * T ^ t) ≤ 16 * (16 * 2 ^ 44) := Nat.mul_le_mul hT16 a2
    have a4 : 16 * (16 * 2 ^ 44) + 16 * 2 ^ 44 ≤ 2 ^ 60 := by decide
    exact Nat.le_trans (Nat.add_le_add a3 a2) a4
  have hhI : (h : Int) ≤ 4 := by omega
  have hh0 : (1 : Int) ≤ (h : Int) := by omega
  have hlI : (l : Int) ≤ 12 := by omega
  have hl0 : (1 : Int) ≤ (l : Int) := by omega
  have hring : (ring && decide ((l : Int) < 3)) = false := by
    cases ring with
    | true => have := hr rfl; simp; omega
    | false => rfl
  have HSP := Hid.mk' (fun k => HEND.out k)
  generalize hn : cbN h l ring = n at *
  generalize hspq : spN h l ring = sp at *
  have hnI : (n : Int) ≤ 84 := by omega
  have hn0 : (0 : Int) ≤ (n : Int) := by omega
  rw [show ((n + 1 : Nat) : Int) = (n : Int) + 1 by omega] at HTR
  clear hn hspq HEND
  go_enter Tryd.func21, Tryd.ntmps21
  go_wp2_with fail
  refine HFI.out.mono ?_
  rintro e w2 ⟨rfl, hw2⟩
  rw [hw2]
  clear hw2 HFI w2
  have HRG : Hid (ring = true → ¬ ((l : Int) < 3)) := fun e => by have := hr e; omega
  clear hring
  cases ring with
  | true =>
    have hl3 : ¬ ((l : Int) < 3) := HRG.out rfl
    have hl3n : ¬ (l < 3) := by omega
    clear HRG hr
    go_wp2_with fail
    refine HCB.out.mono ?_
    rintro e w2 ⟨rfl, hw2⟩
    rw [hw2]
    clear hw2 HCB w2
    go_wp2_with (at_make; go_must (refine wpList_make_full _ rfl _ _ _ rfl w.heap.size 3 i0 _ 1 Tryd.underlying34 HINF.out.1 HINF.out.2.1 HINF.out.2.2.1 .i64 .i64 _ _ (n + 1) rfl rfl (by go_num) (by go_num) (by rw [HINF.out.2.2.2]; omega) (by unfold maxLen; omega) (Nat.le_refl _) ?_; intro w3 hown3 hgrow3; have HF3 := Hid.mk' (fills_made hown3 (made_zero (n + 1)) hgrow3); clear hown3 hgrow3))
    go_loopw [32] (fun fv wr => ∃ first : Nat, first ≤ T ∧ fv = .int .i64 first ∧ Hid (Fills w wr w.heap.size (n + 1) (fun k => ((soF T h t true first k : Nat) : Int)))) (fun fv _ => T - (intOf fv).toNat)
    case atStart => exact ⟨0, Nat.zero_le _, rfl, HF3⟩
    case round =>
      clear HF3
      obtain ⟨first, hf, rfl, HF⟩ := hrel
      have hf0 : (0 : Int) ≤ (first : Int) := by omega
      rcases Nat.lt_or_ge first T with h1 | h1
      · have hfI : (first : Int) < (T : Int) := by omega
        obtain ⟨Wo, hWo⟩ : ∃ Wo, Wo = wr := ⟨_, rfl⟩
        rw [← hWo] at HF ⊢
        clear hWo
        go_wp2_with fail
        refine (HTR.out first _ h1).mono ?_
        rintro e w4 ⟨g4, r4, rfl, hg4⟩
        have HG4 := Hid.mk' hg4
        have HF4 : Hid (Fills w w4 w.heap.size (n + 1) (fun k => ((soF T h t true first k + siF T h t first true 0 k : Nat) : Int))) := (HF.out.later hg4.below).congr fun k _ => by simp [siF, suF]
        have hgo : w.heap.size < Wo.heap.size := cell_lt (HF.out.row 0 (Nat.succ_pos _))
        have hg4g := hg4.hg
        have HR4 : Hid (∀ c, c < T → Wo.heap.size ≤ r4 c) := fun c hc => (hg4.rge c hc).1
        clear hg4 HF
        go_wp2_with fail
        go_loopw [42] (fun lv wx => ∃ last : Nat, last ≤ T ∧ lv = .int .i64 last ∧ Hid (Fills w wx w.heap.size (n + 1) (fun k => ((soF T h t true first k + siF T h t first true last k : Nat) : Int))) ∧ Hid (RowPut w.heap.size w4 wx)) (fun lv _ => T - (intOf lv).toNat)
        case atStart => exact ⟨0, Nat.zero_le _, rfl, HF4, RowPut.of (Below.refl _ _)⟩
        case round =>
          clear HF4
          obtain ⟨last, hla, rfl, HF, HP⟩ := hrel
          have hl0' : (0 : Int) ≤ (last : Int) := by omega
          rcases Nat.lt_or_ge last T with h2 | h2
          · have hlaI : (last : Int) < (T : Int) := by omega
            have hmd : wr.cell? ⟨g4, last, none⟩ = some (.slice (some ⟨r4 last, 0, none⟩) (n + 1) (n + 1)) := HP.out.cell (HG4.out.made last h2) (by show g4 ≠ w.heap.size; omega)
            have hr4 := HR4.out last h2
            have hbl := HBL.out last first h2 h1
            have HAD : Hid (∀ V, Below wr.heap.size wr V → Calls Tryd.prog 37 #[.slice (some ⟨w.heap.size, 0, none⟩) (n + 1) (n + 1), .slice (some ⟨r4 last, 0, none⟩) (n + 1) (n + 1), .int .i64 ((clo true last first : Nat) : Int)] V fun e w' => e = .returned (.tuple #[]) ∧ Fills w w' w.heap.size (n + 1) (fun k => ((soF T h t true first k + siF T h t first true (last + 1) k : Nat) : Int)) ∧ RowPut w.heap.size V w') := fun V hV => by
              have hFV := HF.out.later hV
              have hPV : RowPut w.heap.size w4 V := HP.out.trans (RowPut.of hV)
              refine (addShifted_any w.heap.size (r4 last) (n + 1) (clo true last first) (fun k => soF T h t true first k + siF T h t first true last k) (trF btw (wth h) T first t last) V hFV.rowIs ((HG4.out.rows last h2).beside hPV (by omega)) (by omega) (by omega) (by unfold clo; first | (rw [if_pos rfl]; omega) | (rw [if_neg (by decide)]; omega)) (fun k => Nat.le_trans (Nat.add_le_add (soF_le T h t true k hf) (siF_le T h t first true k hla)) HP4.out) (fun k => Nat.le_trans (trF_le _ _ _ _ _ _ _) HP3.out)).mono ?_
              rintro e w' ⟨he, hr9, hp9⟩
              refine ⟨he, (hFV.turn hp9 hr9).congr fun k _ => ?_, hp9⟩
              congr 1
              exact Nat.add_assoc _ _ _
            have HBB := Hid.mk' (fun W => HBW.out last first W h2 h1)
            have HCL : Hid (clo true last first = btw last first) := rfl
            rw [HCL.out] at HAD
            generalize btw last first = bc at HAD HBB hbl
            go_wp2_with fail
            refine (HBB.out _).mono ?_
            rintro e w5 ⟨rfl, hw5⟩
            rw [hw5]
            clear hw5
            go_wp2_with fail
            refine (HAD.out _ (Below.refl _ _)).mono ?_
            rintro e w6 ⟨rfl, hf6, hp6⟩
            have HF6 := Hid.mk' hf6
            have HP6 := Hid.mk' (HP.out.trans hp6)
            clear hf6 hp6 HF HP hmd
            go_wp2_with fail
            exact ⟨⟨last + 1, h2, by go_num, HF6, HP6⟩, by simp [intOf]; omega⟩
          · obtain rfl : last = T := by omega
            have hlaI : ¬ ((last : Int) < (last : Int)) := by omega
            go_wp2_with fail
            exact ⟨⟨first + 1, h1, by go_num, Hid.mk' (HF.out.congr fun k _ => rfl)⟩, by simp [intOf]; omega⟩
      · obtain rfl : first = T := by omega
        have hfI : ¬ ((first : Int) < (first : Int)) := by omega
        go_wp2_with fail
        go_ret2
        exact ⟨_, rfl, HF.out.congr fun k _ => by rw [HSP.out k]⟩
  | false =>
    clear HRG hr
    go_wp2_with fail
    refine HCB.out.mono ?_
    rintro e w2 ⟨rfl, hw2⟩
    rw [hw2]
    clear hw2 HCB w2
    go_wp2_with (at_make; go_must (refine wpList_make_full _ rfl _ _ _ rfl w.heap.size 3 i0 _ 1 Tryd.underlying34 HINF.out.1 HINF.out.2.1 HINF.out.2.2.1 .i64 .i64 _ _ (n + 1) rfl rfl (by go_num) (by go_num) (by rw [HINF.out.2.2.2]; omega) (by unfold maxLen; omega) (Nat.le_refl _) ?_; intro w3 hown3 hgrow3; have HF3 := Hid.mk' (fills_made hown3 (made_zero (n + 1)) hgrow3); clear hown3 hgrow3))
    go_loopw [32] (fun fv wr => ∃ first : Nat, first ≤ T ∧ fv = .int .i64 first ∧ Hid (Fills w wr w.heap.size (n + 1) (fun k => ((soF T h t false first k : Nat) : Int)))) (fun fv _ => T - (intOf fv).toNat)
    case atStart => exact ⟨0, Nat.zero_le _, rfl, HF3⟩
    case round =>
      clear HF3
      obtain ⟨first, hf, rfl, HF⟩ := hrel
      have hf0 : (0 : Int) ≤ (first : Int) := by omega
      rcases Nat.lt_or_ge first T with h1 | h1
      · have hfI : (first : Int) < (T : Int) := by omega
        obtain ⟨Wo, hWo⟩ : ∃ Wo, Wo = wr := ⟨_, rfl⟩
        rw [← hWo] at HF ⊢
        clear hWo
        go_wp2_with fail
        refine (HTR.out first _ h1).mono ?_
        rintro e w4 ⟨g4, r4, rfl, hg4⟩
        have HG4 := Hid.mk' hg4
        have HF4 : Hid (Fills w w4 w.heap.size (n + 1) (fun k => ((soF T h t false first k + siF T h t first false 0 k : Nat) : Int))) := (HF.out.later hg4.below).congr fun k _ => by simp [siF, suF]
        have hgo : w.heap.size < Wo.heap.size := cell_lt (HF.out.row 0 (Nat.succ_pos _))
        have hg4g := hg4.hg
        have HR4 : Hid (∀ c, c < T → Wo.heap.size ≤ r4 c) := fun c hc => (hg4.rge c hc).1
        clear hg4 HF
        go_wp2_with fail
        go_loopw [42] (fun lv wx => ∃ last : Nat, last ≤ T ∧ lv = .int .i64 last ∧ Hid (Fills w wx w.heap.size (n + 1) (fun k => ((soF T h t false first k + siF T h t first false last k : Nat) : Int))) ∧ Hid (RowPut w.heap.size w4 wx)) (fun lv _ => T - (intOf lv).toNat)
        case atStart => exact ⟨0, Nat.zero_le _, rfl, HF4, RowPut.of (Below.refl _ _)⟩
        case round =>
          clear HF4
          obtain ⟨last, hla, rfl, HF, HP⟩ := hrel
          have hl0' : (0 : Int) ≤ (last : Int) := by omega
          rcases Nat.lt_or_ge last T with h2 | h2
          · have hlaI : (last : Int) < (T : Int) := by omega
            have hmd : wr.cell? ⟨g4, last, none⟩ = some (.slice (some ⟨r4 last, 0, none⟩) (n + 1) (n + 1)) := HP.out.cell (HG4.out.made last h2) (by show g4 ≠ w.heap.size; omega)
            have hr4 := HR4.out last h2
            have hbl := HBL.out last first h2 h1
            have HAD : Hid (∀ V, Below wr.heap.size wr V → Calls Tryd.prog 37 #[.slice (some ⟨w.heap.size, 0, none⟩) (n + 1) (n + 1), .slice (some ⟨r4 last, 0, none⟩) (n + 1) (n + 1), .int .i64 ((clo false last first : Nat) : Int)] V fun e w' => e = .returned (.tuple #[]) ∧ Fills w w' w.heap.size (n + 1) (fun k => ((soF T h t false first k + siF T h t first false (last + 1) k : Nat) : Int)) ∧ RowPut w.heap.size V w') := fun V hV => by
              have hFV := HF.out.later hV
              have hPV : RowPut w.heap.size w4 V := HP.out.trans (RowPut.of hV)
              refine (addShifted_any w.heap.size (r4 last) (n + 1) (clo false last first) (fun k => soF T h t false first k + siF T h t first false last k) (trF btw (wth h) T first t last) V hFV.rowIs ((HG4.out.rows last h2).beside hPV (by omega)) (by omega) (by omega) (by unfold clo; first | (rw [if_pos rfl]; omega) | (rw [if_neg (by decide)]; omega)) (fun k => Nat.le_trans (Nat.add_le_add (soF_le T h t false k hf) (siF_le T h t first false k hla)) HP4.out) (fun k => Nat.le_trans (trF_le _ _ _ _ _ _ _) HP3.out)).mono ?_
              rintro e w' ⟨he, hr9, hp9⟩
              refine ⟨he, (hFV.turn hp9 hr9).congr fun k _ => ?_, hp9⟩
              congr 1
              exact Nat.add_assoc _ _ _
            have HCL : Hid (clo false last first = 0) := rfl
            rw [HCL.out] at HAD
            go_wp2_with fail
            refine (HAD.out _ (Below.refl _ _)).mono ?_
            rintro e w6 ⟨rfl, hf6, hp6⟩
            have HF6 := Hid.mk' hf6
            have HP6 := Hid.mk' (HP.out.trans hp6)
            clear hf6 hp6 HF HP hmd
            go_wp2_with fail
            exact ⟨⟨last + 1, h2, by go_num, HF6, HP6⟩, by simp [intOf]; omega⟩
          · obtain rfl : last = T := by omega
            have hlaI : ¬ ((last : Int) < (last : Int)) := by omega
            go_wp2_with fail
            exact ⟨⟨first + 1, h1, by go_num, Hid.mk' (HF.out.congr fun k _ => rfl)⟩, by simp [intOf]; omega⟩
      · obtain rfl : first = T := by omega
        have hfI : ¬ ((first : Int) < (first : Int)) := by omega
        go_wp2_with fail
        go_ret2
        exact ⟨_, rfl, HF.out.congr fun k _ => by rw [HSP.out k]⟩

set_option maxRecDepth 100000 in
set_option maxHeartbeats 4000000 in
theorem RSum_any (b sz cap : Nat) (f : Nat → Nat) (w : World) (hr : RowAt w b 0 sz (fun k => ((f k : Nat) : Int))) (hs : sz ≤ 200) (hf : suF f sz ≤ 2 ^ 60) :
    Calls Tryd.prog 22 #[.slice (some ⟨b, 0, none⟩) sz cap] w fun e w' => e = .returned (.int .i64 (suF f sz : Nat)) ∧ w' = w := by
  have HR := Hid.mk' hr
  have HF := Hid.mk' hf
  have hsI : (sz : Int) ≤ 200 := by omega
  clear hr hf
  go_enter Tryd.func22, Tryd.ntmps22
  go_wp2_with fail
  go_loop [3, 4] (fun s i => ∃ k : Nat, k ≤ sz ∧ i = .int .i64 k ∧ s = .int .i64 (suF f k : Nat)) (fun _ i => sz - (intOf i).toNat)
  case atStart => exact ⟨0, Nat.zero_le _, rfl, rfl⟩
  case round =>
    obtain ⟨k, hk, rfl, rfl⟩ := hrel
    have hk0 : (0 : Int) ≤ (k : Int) := by omega
    rcases Nat.lt_or_ge k sz with h1 | h1
    · have hkI : (k : Int) < (sz : Int) := by omega
      have hc : w.cell? ⟨b, k, none⟩ = some (.int .i64 ((f k : Nat) : Int)) := by have h9 := HR.out k h1; rwa [Nat.zero_add] at h9
      have hm := suF_mono f (show k + 1 ≤ sz from h1)
      have hx : suF f (k + 1) = suF f k + f k := rfl
      have HX := Hid.mk' hx
      have hff := HF.out
      rw [hx] at hm
      clear hx
      generalize suF f k = X at *
      generalize f k = Y at *
      have b1 : (X : Int) + (Y : Int) ≤ 1152921504606846976 := by omega
      have b2 : (0 : Int) ≤ (X : Int) := by omega
      have b3 : (0 : Int) ≤ (Y : Int) := by omega
      clear hm hff
      go_wp2_with fail
      refine ⟨⟨k + 1, h1, by go_num, ?_⟩, by simp [intOf]; omega⟩
      rw [HX.out]
      go_num
    · obtain rfl : k = sz := by omega
      have hkI : ¬ ((k : Int) < (k : Int)) := by omega
      go_wp2_with fail
      go_ret
      exact ⟨rfl, rfl⟩
end Go.Proofs.YtoghnbcjkgookaaDoor
