/- prefix.Canon. -/
import Derived.Test.YtcigmihfannmjabDoorRisingP
import Derived.Test.YtcigmihfannmjabDoorDigitsP
import Derived.Test.YtcigmihfannmjabDoorCanonMath
import Derived.Test.YtcigmihfannmjabDoorGrid
import Derived.Deep.RegionHeld3
namespace Go.Proofs.YtcigmihfannmjabDoor
open Go.RowKit

theorem Tryd.infoStr : (Tryd.prog.info? 9).map (fun i => (i.zero, i.size, i.bytes)) = some (some (.string ⟨#[]⟩), 1, 16) := by kernel_rfl
theorem shareSum_list (z : Nat → Int) : ∀ n, shareSum z n = ((List.range n).map (shareOf z)).sum
  | 0 => rfl
  | n + 1 => by rw [shareSum, shareSum_list z n, List.range_succ, List.map_append, List.sum_append]; simp [shareOf]
def strV (l : List UInt8) : Value := .string ⟨l.toArray⟩
/-- The words while they are made. -/
structure Words (w wr : World) (g n : Nat) (f : Nat → List UInt8) : Prop where
  row : RowIs wr g n (fun i => strV (f i))
  below : Below w.heap.size w wr
  hg : w.heap.size ≤ g
theorem Words.set {w wr : World} {g n : Nat} {f f' : Nat → List UInt8} (h : Words w wr g n f) {j : Nat} (hj : j < n) (l : List UInt8) (hf : ∀ i, i < n → f' i = if i = j then l else f i) : Words w (wr.setCell ⟨g, j, none⟩ (strV l)) g n f' := by
  refine ⟨⟨fun i hi => ?_, fun i hi => by rw [World.frozen?_setCell]; exact h.row.fz i hi⟩, h.below.setCell h.hg _, h.hg⟩
  rw [put_cell _ (h.row.row j hj), hf i hi]
  by_cases hij : i = j
  · rw [if_pos (by rw [hij]), if_pos hij]
  · rw [if_neg (fun e => hij (by have := congrArg Addr.off e; simpa using this)), if_neg hij]
    exact h.row.row i hi
theorem Words.later {w wr wn : World} {g n : Nat} {f : Nat → List UInt8} (h : Words w wr g n f) (hb : Below wr.heap.size wr wn) : Words w wn g n f :=
  ⟨h.row.later hb, h.below.trans (hb.mono h.below.size), h.hg⟩
theorem quo_nat50 {a b : Nat} (h : a ≤ 1125899906842624) : wrap64 ((a : Int) / (b : Int)) = ((a / b : Nat) : Int) := by
  have h0 : (a : Int) / (b : Int) = ((a / b : Nat) : Int) := by simp
  have h1 : a / b ≤ a := Nat.div_le_self _ _
  rw [h0]
  generalize a / b = q at h1
  rw [w64 _ (by omega)]
theorem quo_wrap50 {a b : Nat} (h : a ≤ 1125899906842624) : IntKind.i64.wrap ((a : Int) / (b : Int)) = ((a / b : Nat) : Int) := by
  have h0 : (a : Int) / (b : Int) = ((a / b : Nat) : Int) := by simp
  have h1 : a / b ≤ a := Nat.div_le_self _ _
  rw [h0]
  generalize a / b = q at h1
  simp only [IntKind.wrap_i64]
  omega

set_option maxRecDepth 100000 in
set_option maxHeartbeats 2000000 in
theorem Canon_ok (a : Nat → Addr) (v : Value) (n : Nat) (z : Nat → Int) (w : World) (hE : Errs w a) (hd : w.cell? ⟨14, 1, none⟩ = some (.int .u8 1)) (h : NumsAt w v n z) (hok : lenErr n z = 0) (hk : shareSum z n ≤ 1099511627776) :
    Calls Tryd.prog 20 #[v] w fun e w' => ∃ g, e = .returned (.tuple #[.slice (some ⟨g, 0, none⟩) n n, .nilIface]) ∧ RowIs w' g n (fun i => strV (wordsN z (ordL z n 40) n i)) ∧ Below w.heap.size w w' := by
  obtain ⟨i0, hii, hz0, hz1, hz2⟩ := info_parts Tryd.infoStr
  have HINF : Hid (Tryd.prog.info? 9 = some i0 ∧ i0.zero = some (.string ⟨#[]⟩) ∧ i0.size = 1 ∧ i0.bytes = 16) := ⟨hii, hz0, hz1, hz2⟩
  clear hii hz0 hz1 hz2
  obtain ⟨hn0, hn, hz⟩ := lenErr_ok hok
  have hch := checkLengths_any a v n z w hE h (by omega)
  rw [hok, errV_zero] at hch
  have hss := shares_any v n z w h hn hz
  have hsh := share_any 0 w (by omega)
  have HRI : Hid (∀ W, Below w.heap.size w W → Calls Tryd.prog 41 #[v] W fun e w' => ∃ g, e = .returned (.slice (some ⟨g, 0, none⟩) n n) ∧ RowAt w' g 0 n (fun j => ((ordL z n 40).getD j 0 : Nat)) ∧ Below W.heap.size W w') := fun W hb => rising_any v n z W (h.later hb) hn0 hn hz
  have HD : Hid (∀ W, Below w.heap.size w W → W.cell? ⟨14, 1, none⟩ = some (.int .u8 1)) := fun W hb => by rw [hb.cell (cell_lt hd)]; exact hd
  have HTA : Hid (∀ k, k ≤ n → takenN z (ordL z n 40) k ≤ 1099511627776) := fun k hk' => by
    have h1 := takenN_mono z (ordL z n 40) hk'
    rw [takenN_all hz, ← shareSum_list] at h1
    omega
  rcases h with ⟨_, _, _, h0⟩ | ⟨b, o, cap, rfl, _, hr⟩
  · omega
  have HR : Hid (∀ W, Below w.heap.size w W → RowAt W b o n z) := fun W hb => RowAt.later hr hb
  have hbw : b < w.heap.size := cell_lt (hr 0 hn0)
  have hkI : ((shareSum z n : Nat) : Int) ≤ 1099511627776 := by omega
  have hp40 : (2 ^ (40 - 0) : Nat) = 1099511627776 := by decide
  rw [hp40] at hsh
  clear hr hE hd hok hk hp40
  generalize shareSum z n = SS at *
  go_enter Tryd.func20, Tryd.ntmps20
  go_wp2_with (first
    | (go_at_call 38; refine hch.mono ?_; rintro e w1 ⟨rfl, hw1⟩; rw [hw1]; clear hw1)
    | (go_at_call 39; refine hss.mono ?_; rintro e w1 ⟨rfl, hw1⟩; rw [hw1]; clear hw1)
    | (go_at_call 40; refine hsh.mono ?_; rintro e w1 ⟨rfl, hw1⟩; rw [hw1]; clear hw1)
    | (at_make; go_must (refine wpList_make_full _ rfl _ _ _ rfl w.heap.size 9 i0 _ 1 Tryd.underlying38 HINF.out.1 HINF.out.2.1 HINF.out.2.2.1 .i64 .i64 _ _ n rfl rfl rfl rfl (by rw [HINF.out.2.2.2]; omega) (by unfold maxLen; omega) (Nat.le_refl _) ?_; intro w3 hown3 hgrow3; have HF3 : Hid (Words w w3 w.heap.size n (fun _ => [])) := ⟨rowIs_made hown3 (made_one _ rfl n), made_below hgrow3, Nat.le_refl _⟩; clear hown3 hgrow3))
    | (go_at_call 41; refine (HRI.out w3 HF3.out.below).mono ?_; rintro e w4 ⟨g4, rfl, hr4, hb4⟩; have HF4 := Hid.mk' (HF3.out.later hb4); have HO4 := Hid.mk' hr4; clear hr4 hb4 HF3))
  have hg4 : g4 ≠ w.heap.size := fun e => by
    have h1 := HO4.out 0 hn0
    have h2 := HF4.out.row.row 0 hn0
    rw [e] at h1
    rw [Nat.zero_add] at h1
    rw [h1] at h2
    cases h2
  have HG4 := Hid.mk' hg4
  clear hg4 hss hsh hch
  go_loopw [6, 25] (fun s t wr => ∃ k : Nat, k ≤ n ∧ t = .int .i64 k ∧ s = .int .i64 (takenN z (ordL z n 40) k : Nat) ∧ Hid (Words w wr w.heap.size n (wordsN z (ordL z n 40) k)) ∧ Hid (RowAt wr g4 0 n (fun j => ((ordL z n 40).getD j 0 : Nat)))) (fun _ t _ => n - (intOf t).toNat)
  case atStart => exact ⟨0, Nat.zero_le _, rfl, rfl, HF4, HO4⟩
  case round =>
    clear HF4 HO4
    obtain ⟨k, hk, rfl, rfl, HF, HO⟩ := hrel
    rcases Nat.lt_or_ge k n with h1 | h1
    · have hkn : (k : Int) < (n : Int) := by omega
      have hk0 : (0 : Int) ≤ (k : Int) := by omega
      have hin := ordL_at hz h1
      have y0 : wr.cell? ⟨g4, k, none⟩ = some (.int .i64 (((ordL z n 40).getD k 0 : Nat) : Int)) := by have := HO.out k h1; rwa [Nat.zero_add] at this
      have HW1 : Hid (wordsN z (ordL z n 40) (k + 1) = fun i => if i = (ordL z n 40).getD k 0 then wordAt z (ordL z n 40) k else wordsN z (ordL z n 40) k i) := rfl
      have hT := HTA.out k (by omega)
      have hT1 := HTA.out (k + 1) h1
      obtain ⟨x, hx⟩ : ∃ x : Nat, z ((ordL z n 40).getD k 0) = (x : Int) := ⟨(z ((ordL z n 40).getD k 0)).toNat, by have := hz _ hin; omega⟩
      have hx1 := hz _ hin
      have hfit := word_fits hx (by omega) hT1
      have HWA : Hid (wordAt z (ordL z n 40) k = bitsL (takenN z (ordL z n 40) k / 2 ^ (40 - x)) x) := by show _ = _; unfold wordAt shareOf; rw [hx]; rfl
      have HTK : Hid (takenN z (ordL z n 40) (k + 1) = takenN z (ordL z n 40) k + 2 ^ (40 - x)) := by show _ = _; rw [takenN, shareOf, hx]; rfl
      have y1 := HR.out wr HF.out.below _ hin
      rw [hx] at y1 hx1
      have y2 := HF.out.row.row _ hin
      have y3 := HF.out.row.fz _ hin
      have HSET := Hid.mk' (fun (W : World) (hb : Below wr.heap.size wr W) => (HF.out.later hb).set hin (wordAt z (ordL z n 40) k) (f' := wordsN z (ordL z n 40) (k + 1)) (fun i _ => by rw [HW1.out]))
      obtain ⟨i, hi⟩ : ∃ i, i = (ordL z n 40).getD k 0 := ⟨_, rfl⟩
      have HP0 : Hid (0 < 2 ^ (40 - x) ∧ 2 ^ (40 - x) ≤ 1099511627776) := pow40 x
      have HDG : Hid (∀ W, Below wr.heap.size wr W → Calls Tryd.prog 42 #[.int .i64 ((takenN z (ordL z n 40) k / 2 ^ (40 - x) : Nat) : Int), .int .i64 x] W fun e w' => e = .returned (strV (wordAt z (ordL z n 40) k)) ∧ Below W.heap.size W w') := fun W hb => by
        rw [HWA.out]
        exact digits_any _ x W (by omega) (by omega) hfit (HD.out W (below_chain HF.out.below hb))
      have HSH : Hid (∀ W, Calls Tryd.prog 40 #[.int .i64 x] W fun e w' => e = .returned (.int .i64 ((2 ^ (40 - x) : Nat) : Int)) ∧ w' = W) := fun W => share_any x W (by omega)
      have HQ := Hid.mk' (quo_wrap50 (a := takenN z (ordL z n 40) k) (b := 2 ^ (40 - x)) (by omega))
      have HXB : Hid (x ≤ 40) := by show _ ≤ _; omega
      rw [← hi] at y0 y1 y2 y3 hin HSET
      clear hx hfit HWA HW1 hx1 hT1
      have hii : (i : Int) < (n : Int) := by omega
      have hi0 : (0 : Int) ≤ (i : Int) := by omega
      have HOL : Hid (∀ W, Below wr.heap.size wr W → ∀ u, RowAt (W.setCell ⟨w.heap.size, i, none⟩ u) g4 0 n (fun j => ((ordL z n 40).getD j 0 : Nat))) := fun W hb u j hj => by
        rw [World.cell?_setCell_other _ _ _ _ (fun e => HG4.out (by have := congrArg Addr.block e; simpa using this.symm))]
        exact (HO.out.later hb) j hj
      have HKS : Hid (∀ W, Below wr.heap.size wr W → W.cell? ⟨b, o + i, none⟩ = some (.int .i64 (x : Int)) ∧ W.cell? ⟨w.heap.size, i, none⟩ = some (strV (wordsN z (ordL z n 40) k i)) ∧ W.frozen? ⟨w.heap.size, i, none⟩ = false) := fun W hb => ⟨by rw [hb.cell (cell_lt y1)]; exact y1, by rw [hb.cell (cell_lt y2)]; exact y2, by rw [hb.frozen (cell_lt y2)]; exact y3⟩
      have HNB : Hid (∀ (W : World) (u : Value), W.cell? ⟨b, o + i, none⟩ = some (.int .i64 (x : Int)) → (W.setCell ⟨w.heap.size, i, none⟩ u).cell? ⟨b, o + i, none⟩ = some (.int .i64 (x : Int))) := fun W u hW => by
        rw [World.cell?_setCell_other _ _ _ _ (fun e => by have := congrArg Addr.block e; simp at this; omega)]
        exact hW
      unfold strV at HDG HSET y2 HKS
      generalize (⟨(wordAt z (ordL z n 40) k).toArray⟩ : ByteArray) = wd at HDG HSET
      generalize (⟨(wordsN z (ordL z n 40) k i).toArray⟩ : ByteArray) = wo at y2 HKS
      have hTI : ((takenN z (ordL z n 40) k : Nat) : Int) ≤ 1099511627776 := by omega
      have HRL : Hid (∀ P' T' : Nat, T' = takenN z (ordL z n 40) k → P' = 2 ^ (40 - x) → T' + P' = takenN z (ordL z n 40) (k + 1)) := fun P' T' h1 h2 => by rw [h1, h2, HTK.out]
      obtain ⟨T, hTe⟩ : ∃ T, T = takenN z (ordL z n 40) k := ⟨_, rfl⟩
      obtain ⟨P, hPe⟩ : ∃ P, P = 2 ^ (40 - x) := ⟨_, rfl⟩
      have HSUM := Hid.mk' (HRL.out P T hTe hPe)
      rw [← hTe] at HDG HQ hT hTI ⊢
      rw [← hPe] at HDG HSH HQ HP0
      clear hTe hPe HRL HTK hT
      have hP0 : ¬ P = 0 := by have := HP0.out.1; omega
      have hPI : (P : Int) ≤ 1099511627776 := by have := HP0.out.2; omega
      have hcur0 : Below wr.heap.size wr wr := Below.refl _ _
      have hcur : Below wr.heap.size wr wr.drew := (Below.refl _ _).drew
      clear y2 y3 hi
      go_wp2_with fail
      go_region_held3 (fun W => W.cell? ⟨b, o + i, none⟩ = some (.int .i64 (x : Int)))
        (first | exact (HKS.out _ hcur0).1 | exact (HKS.out _ hcur).1 | exact (HKS.out _ hbw5).1 | exact HNB.out _ _ (HKS.out _ hbw5).1)
        (first
          | (go_at_call 42; rw [HQ.out]; refine (HDG.out _ hcur).mono ?_; rintro e w5 ⟨rfl, hb5⟩; have hbw5 := below_chain hcur hb5; have hx5 := (HKS.out _ hbw5).2.1; have hf5 := (HKS.out _ hbw5).2.2; clear hb5)
          | (go_at_call 40; refine (HSH.out _).mono ?_; rintro e w6 ⟨rfl, hw6⟩; rw [hw6]; clear hw6))
      go_wp2_with (first | (go_at_call 40; refine (HSH.out _).mono ?_; rintro e w7 ⟨rfl, hw7⟩; rw [hw7]; clear hw7))
      exact ⟨⟨k + 1, h1, by go_num, by rw [← HSUM.out]; go_num, HSET.out _ hbw5, HOL.out _ hbw5 _⟩, by simp [intOf]; omega⟩
    · obtain rfl : n = k := by omega
      go_wp2_with fail
      go_ret2
      exact ⟨_, rfl, HF.out.row, HF.out.below⟩
/-- The error of Canon, by its number. -/
def canErr (n : Nat) (z : Nat → Int) : Nat := if lenErr n z = 0 then (if 1099511627776 < shareSum z n then 6 else 0) else lenErr n z
theorem errV_six (a : Nat → Addr) : errV a 6 = .iface 174 (.pointer (some (a 5))) := rfl
set_option maxRecDepth 100000 in
theorem Canon_bad (a : Nat → Addr) (v : Value) (n : Nat) (z : Nat → Int) (w : World) (hE : Errs w a) (h : NumsAt w v n z) (hn : n ≤ 1000000) (hb : canErr n z ≠ 0) :
    Calls Tryd.prog 20 #[v] w fun e w' => e = .returned (.tuple #[.slice none 0 0, errV a (canErr n z)]) ∧ Below w.heap.size w w' := by
  have hch := checkLengths_any a v n z w hE h hn
  unfold canErr at hb ⊢
  by_cases hl : lenErr n z = 0
  · rw [if_pos hl] at hb ⊢
    have hs : 1099511627776 < shareSum z n := Classical.byContradiction fun hno => hb (if_neg hno)
    rw [if_pos hs, errV_six]
    rw [hl, errV_zero] at hch
    obtain ⟨hn0, hn16, hz⟩ := lenErr_ok hl
    have hss := shares_any v n z w h hn16 hz
    have hsh := share_any 0 w (by omega)
    have hp40 : (2 ^ (40 - 0) : Nat) = 1099511627776 := by decide
    rw [hp40] at hsh
    have hkI : (1099511627776 : Int) < ((shareSum z n : Nat) : Int) := by omega
    have hc5 := hE.c5
    clear h hE hb hl hs hz hp40
    generalize shareSum z n = SS at *
    go_enter Tryd.func20, Tryd.ntmps20
    go_wp2_with (first
      | (go_at_call 38; refine hch.mono ?_; rintro e w1 ⟨rfl, hw1⟩; rw [hw1]; clear hw1)
      | (go_at_call 39; refine hss.mono ?_; rintro e w1 ⟨rfl, hw1⟩; rw [hw1]; clear hw1)
      | (go_at_call 40; refine hsh.mono ?_; rintro e w1 ⟨rfl, hw1⟩; rw [hw1]; clear hw1)
      | go_quiet (fail))
    go_ret2
    exact ⟨rfl, below_drewN (Below.refl _ _) _⟩
  · rw [if_neg hl, errV_pos a hl]
    rw [errV_pos a hl] at hch
    clear hE h
    go_enter Tryd.func20, Tryd.ntmps20
    go_wp2_with fail
    refine hch.mono ?_
    clear hch
    rintro e w1 ⟨rfl, hw1⟩
    go_wp2_with fail
    go_ret2
    exact ⟨rfl, Below.refl _ _⟩
end Go.Proofs.YtcigmihfannmjabDoor
