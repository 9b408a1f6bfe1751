/- Right channels: the program's. -/
import Derived.Test.YtojljmapdafmaaaDoorChainVal
import Derived.Laws.EntriesVeiled
namespace Go.Proofs.YtojljmapdafmaaaDoor
open Go.RowKit

theorem weightsErr_fewC {z : Nat → Int} {n : Nat} (h : n ≤ 16) : weightsErr z n = listErr z n := by unfold weightsErr; rw [if_neg (by omega)]
/-- A row among the first k whose sum is above 256. -/
def greatC (ns : Nat → Nat) (zs : Nat → Nat → Int) : Nat → Bool
  | 0 => false
  | k + 1 => greatC ns zs k || decide (256 < sumN (zs k) (ns k))
def chanErr (R : Nat) (ns : Nat → Nat) (zs : Nat → Nat → Int) : Nat := if 16 < R then 2 else if longB ns R = true then 2 else if R = 0 then 3 else if shapeB (ns 0) ns zs R = true then 3 else if greatC ns zs R = true then 2 else 0
theorem chanErr_le (n : Nat) (ns : Nat → Nat) (zs : Nat → Nat → Int) : chanErr n ns zs ≤ 3 := by
  unfold chanErr; split; omega; split; omega; split; omega; split; omega; split <;> omega
theorem greatC_none {ns : Nat → Nat} {zs : Nat → Nat → Int} : ∀ {m : Nat}, greatC ns zs m = false → ∀ k, k < m → sumN (zs k) (ns k) ≤ 256
  | 0, _, k, h => by omega
  | m + 1, h, k, hk => by
    rw [greatC, Bool.or_eq_false_iff] at h
    rcases Nat.lt_or_ge k m with h1 | h1
    · exact greatC_none h.1 k h1
    · obtain rfl : k = m := by omega
      have := of_decide_eq_false h.2
      omega
theorem listErr_not3 {z : Nat → Int} {n : Nat} (h : listErr z n ≠ 3) : negB z n = false ∧ someB z n = true := by
  unfold listErr at h
  constructor
  · cases hn : negB z n with
    | false => rfl
    | true => rw [hn, if_pos (Or.inl rfl)] at h; exact absurd rfl h
  · cases hs : someB z n with
    | true => rfl
    | false => rw [hs, if_pos (Or.inr rfl)] at h; exact absurd rfl h
/-- What a right channel is. -/
theorem chanErr_ok {n : Nat} {ns : Nat → Nat} {zs : Nat → Nat → Int} (h : chanErr n ns zs = 0) : 0 < n ∧ n ≤ 16 ∧ 0 < ns 0 ∧ ns 0 ≤ 16 ∧ (∀ i, i < n → ns i = ns 0) ∧ (∀ i, i < n → OkW (zs i) (ns 0)) ∧ ∀ i, i < n → sumN (zs i) (ns 0) ≤ 256 := by
  unfold chanErr at h
  by_cases h1 : 16 < n
  · rw [if_pos h1] at h; cases h
  rw [if_neg h1] at h
  cases hl : longB ns n with
  | true => rw [hl, if_pos rfl] at h; cases h
  | false =>
  rw [hl, if_neg (by simp)] at h
  by_cases h2 : n = 0
  · rw [if_pos h2] at h; cases h
  rw [if_neg h2] at h
  cases h3 : shapeB (ns 0) ns zs n with
  | true => rw [h3, if_pos rfl] at h; cases h
  | false =>
    rw [h3, if_neg (by simp)] at h
    cases h4 : greatC ns zs n with
    | true => rw [h4, if_pos rfl] at h; cases h
    | false =>
      have hok : ∀ i, i < n → OkW (zs i) (ns 0) := fun i hi => by
        obtain ⟨e, h5⟩ := shapeB_none h3 i hi
        have h6 := greatC_none h4 i hi
        obtain ⟨h7, h8⟩ := listErr_not3 h5
        rw [e] at h6 h7 h8
        refine listErr_ok (listErr_none0 h7 h8 (by omega))
      have hlen := not_long hl
      exact ⟨by omega, by omega, (hok 0 (by omega)).posN, hlen 0 (by omega), fun i hi => (shapeB_none h3 i hi).1, hok, fun i hi => by have := greatC_none h4 i hi; rw [(shapeB_none h3 i hi).1] at this; exact this⟩

theorem isLong_any (ad : Option Addr) (n cap : Nat) (w : World) (hn : n ≤ 1000000) :
    Calls Tryd.prog 40 #[.slice ad n cap] w fun e w' => e = .returned (.bool (decide (16 < n))) ∧ w' = w := by
  by_cases h : 16 < n
  · have hI : (16 : Int) < (n : Int) := by omega
    rw [decide_eq_true h]
    go_enter Tryd.func40, Tryd.ntmps40
    go_wp2_with fail
    go_ret
    exact ⟨rfl, rfl⟩
  · have hI : ¬ (16 : Int) < (n : Int) := by omega
    rw [decide_eq_false h]
    go_enter Tryd.func40, Tryd.ntmps40
    go_wp2_with fail
    go_ret
    exact ⟨rfl, rfl⟩

/-- Where a long row is, or -1. -/
def longAt (ns : Nat → Nat) : Nat → Nat → Int
  | 0, _ => -1
  | m + 1, k => if 16 < ns k then (k : Int) else longAt ns m (k + 1)
set_option maxRecDepth 100000 in
set_option maxHeartbeats 1000000 in
theorem IndexFunc_long (v : Value) (n : Nat) (vs : Nat → Value) (ns : Nat → Nat) (zs : Nat → Nat → Int) (w : World) (h : TabAt w v n vs ns zs) (hn : n ≤ 16) (hns : ∀ i, i < n → ns i ≤ 1000000) :
    Calls Tryd.prog 56 #[v, .func (.func 40) #[] #[]] w fun e w' => (∃ x : Int, e = .returned (.int .i64 x) ∧ ((0 ≤ x ↔ longB ns n = true) ∧ -1 ≤ x ∧ x ≤ 16)) ∧ w' = w := by
  obtain ⟨ad, cap, rfl⟩ := h.form
  have HT := Hid.mk' h
  have HNS := Hid.mk' hns
  clear h hns
  go_enter Tryd.func56, Tryd.ntmps56
  go_wp2_with fail
  go_loop [8] (fun t => ∃ k : Nat, k ≤ n ∧ t = .int .i64 k ∧ Hid (longB ns k = false)) (fun t => n - (intOf t).toNat)
  case atStart => exact ⟨0, Nat.zero_le _, rfl, rfl⟩
  case round =>
    obtain ⟨k, hk, rfl, HS⟩ := hrel
    rcases Nat.lt_or_ge k n with h1 | h1
    · have hkI : (k : Int) < (n : Int) := by omega
      have hk0 : (0 : Int) ≤ (k : Int) := by omega
      obtain ⟨b, o, rfl, hc, hnum⟩ : ∃ b o, ad = some ⟨b, o, none⟩ ∧ w.cell? ⟨b, o + k, none⟩ = some (vs k) ∧ NumsAt w (vs k) (ns k) (zs k) := by
        rcases HT.out with ⟨_, _, h1', h2'⟩ | ⟨b, o, c, h1', _, h2⟩
        · omega
        · simp only [Value.slice.injEq, true_and] at h1'
          exact ⟨b, o, h1'.1, h2 k h1⟩
      obtain ⟨rad, rcap, hre⟩ := hnum.form
      rw [hre] at hc
      have hnk := HNS.out k h1
      have hlg := isLong_any rad (ns k) rcap w hnk
      have HX : Hid (16 < ns k → longB ns n = true) := fun hl => longB_mono h1 hl
      have HL : Hid (longB ns (k + 1) = decide (16 < ns k)) := by show (longB ns k || _) = _; rw [HS.out, Bool.false_or]
      clear hre hnum
      generalize ns k = nk at *
      rcases Nat.lt_or_ge 16 nk with h5 | h5
      · rw [decide_eq_true h5] at hlg
        have HX' := Hid.mk' (HX.out h5)
        go_wp2_with fail
        refine hlg.mono ?_
        clear hlg
        rintro e w2 ⟨rfl, hw2⟩
        go_wp2_with fail
        go_ret
        exact ⟨⟨_, rfl, ⟨fun _ => HX'.out, fun _ => hk0⟩, by omega, by omega⟩, rfl⟩
      · rw [decide_eq_false (by omega)] at hlg
        have HL' : Hid (longB ns (k + 1) = false) := by show _ = _; rw [HL.out]; exact decide_eq_false (by omega)
        go_wp2_with fail
        refine hlg.mono ?_
        clear hlg
        rintro e w2 ⟨rfl, hw2⟩
        go_wp2_with fail
        exact ⟨⟨k + 1, h1, by go_num, HL'⟩, by simp [intOf]; omega⟩
    · obtain rfl : n = k := by omega
      go_wp2_with fail
      go_ret
      exact ⟨⟨_, rfl, ⟨(fun h => by omega), (fun h => by rw [HS.out] at h; cases h)⟩, by omega, by omega⟩, rfl⟩
set_option maxRecDepth 100000 in
theorem ContainsFunc_long (v : Value) (n : Nat) (vs : Nat → Value) (ns : Nat → Nat) (zs : Nat → Nat → Int) (w : World) (h : TabAt w v n vs ns zs) (hn : n ≤ 16) (hns : ∀ i, i < n → ns i ≤ 1000000) :
    Calls Tryd.prog 39 #[v, .func (.func 40) #[] #[]] w fun e w' => e = .returned (.bool (longB ns n)) ∧ w' = w := by
  have hI := IndexFunc_long v n vs ns zs w h hn hns
  obtain ⟨ad, cap, rfl⟩ := h.form
  clear h
  go_enter Tryd.func39, Tryd.ntmps39
  go_wp2_with fail
  refine hI.mono ?_
  clear hI
  rintro e w2 ⟨⟨x, rfl, hx, hx1, hx2⟩, hw2⟩
  have HX := Hid.mk' hx
  clear hx
  cases hl : longB ns n with
  | true =>
    have h0 : 0 ≤ x := HX.out.2 hl
    have HL := Hid.mk' hl
    clear hl
    go_wp2_with fail
    go_ret
    exact ⟨by rw [HL.out]; rfl, rfl⟩
  | false =>
    have h0 : decide (0 ≤ x) = false := decide_eq_false fun h => by rw [HX.out.1 h] at hl; cases hl
    have HL := Hid.mk' hl
    clear hl
    go_wp2_with fail
    go_ret
    exact ⟨by rw [HL.out]; rfl, rfl⟩
set_option maxRecDepth 100000 in
set_option maxHeartbeats 4000000 in
theorem chanValid_any (a : Nat → Addr) (v : Value) (n : Nat) (vs : Nat → Value) (ns : Nat → Nat) (zs : Nat → Nat → Int) (w : World) (hE : Errs w a) (h : TabAt w v n vs ns zs) (hn : n ≤ 1000000) (hns : ∀ i, i < n → ns i ≤ 1000000) :
    Calls Tryd.prog 28 #[v] w fun e w' => e = .returned (errV a (chanErr n ns zs)) ∧ w' = w := by
  by_cases h8 : 16 < n
  · obtain ⟨ad, cap, rfl⟩ := h.form
    have cB := hE.c1
    have hI : (16 : Int) < (n : Int) := by omega
    have he : chanErr n ns zs = 2 := by unfold chanErr; rw [if_pos h8]
    rw [he, errV_two]
    clear h hE hns
    go_enter Tryd.func28, Tryd.ntmps28
    go_wp2_with fail
    go_ret
    exact ⟨rfl, rfl⟩
  have hCF := ContainsFunc_long v n vs ns zs w h (by omega) hns
  obtain ⟨ad, cap, rfl⟩ := h.form
  have HT := Hid.mk' h
  have cB := hE.c1
  have cS := hE.c2
  obtain ⟨i, hi, hcmp⟩ := Option.map_eq_some_iff.1 Tryd.isComp
  obtain ⟨j, hj, hjs⟩ := Option.map_eq_some_iff.1 Tryd.isSize
  have heq := run_eql_iface_ptr_same (P := Tryd.prog) w (a 2) Tryd.underlying31 Tryd.underlying118 hi hcmp hj
  obtain ⟨ca, ta, hca⟩ := hE.row 1 (by decide)
  obtain ⟨cb, tb, hcb⟩ := hE.row 2 (by decide)
  have hne2 := run_eql_iface_ptr_other (P := Tryd.prog) w Tryd.underlying31 Tryd.underlying118 hi hcmp hj (by rw [hjs]; decide) (hE.ne 1 2 (by decide) (by decide) (by decide)) hca hcb
  have hnl := run_eql_iface_nil_left (P := Tryd.prog) (w := w) 118 (.pointer (some (a 2))) Tryd.underlying31
  have HEE := Hid.mk' hE
  clear h hca hcb hi hcmp hj hjs hE
  have hI : decide ((16 : Int) < (n : Int)) = false := decide_eq_false (by omega)
  cases hlg : longB ns n with
  | true =>
    have he : chanErr n ns zs = 2 := by unfold chanErr; rw [if_neg h8, if_pos hlg]
    rw [he, errV_two]
    rw [hlg] at hCF
    clear hlg he
    go_enter Tryd.func28, Tryd.ntmps28
    go_wp2_with fail
    refine hCF.mono ?_
    clear hCF
    rintro e w2 ⟨rfl, hw2⟩
    rw [hw2]
    clear hw2
    go_wp2_with fail
    go_ret
    exact ⟨rfl, rfl⟩
  | false =>
  rw [hlg] at hCF
  rcases Nat.eq_zero_or_pos n with h0 | h0
  · subst h0
    have he : chanErr 0 ns zs = 3 := by unfold chanErr; rw [if_neg h8, hlg, if_neg (by simp), if_pos rfl]
    rw [he, errV_three]
    clear hlg he
    go_enter Tryd.func28, Tryd.ntmps28
    go_wp2_with fail
    refine hCF.mono ?_
    clear hCF
    rintro e w2 ⟨rfl, hw2⟩
    rw [hw2]
    clear hw2
    go_wp2_with fail
    go_ret
    exact ⟨rfl, rfl⟩
  have hz : ((n : Int) == 0) = false := by rw [beq_eq_false_iff_ne]; omega
  obtain ⟨b, o, rfl, hrows⟩ : ∃ b o, ad = some ⟨b, o, none⟩ ∧ ∀ i, i < n → w.cell? ⟨b, o + i, none⟩ = some (vs i) ∧ NumsAt w (vs i) (ns i) (zs i) := by
    rcases HT.out with ⟨_, _, _, h1⟩ | ⟨b, o, c, h1, _, h2⟩
    · omega
    · simp only [Value.slice.injEq, true_and] at h1
      exact ⟨b, o, h1.1, h2⟩
  have HR := Hid.mk' hrows
  have HE : Hid (chanErr n ns zs = if shapeB (ns 0) ns zs n = true then 3 else if greatC ns zs n = true then 2 else 0) := by show _ = _; unfold chanErr; rw [if_neg h8, hlg, if_neg (by simp), if_neg (by omega)]
  have HLN := Hid.mk' (not_long hlg)
  obtain ⟨rad0, rcap0, hre0⟩ := (hrows 0 h0).2.form
  have hc0 : w.cell? ⟨b, o, none⟩ = some (.slice rad0 (ns 0) rcap0) := by have := (hrows 0 h0).1; rw [hre0, Nat.add_zero] at this; exact this
  have hn0 := not_long hlg 0 h0
  clear hrows hns hlg hre0
  go_enter Tryd.func28, Tryd.ntmps28
  go_wp2_with fail
  refine hCF.mono ?_
  clear hCF
  rintro e w2 ⟨rfl, hw2⟩
  rw [hw2]
  clear hw2
  go_wp2_with fail
  go_loop [3, 21] (fun s t => ∃ k : Nat, k ≤ n ∧ t = .int .i64 k ∧ s = errV a (if greatC ns zs k = true then 2 else 0) ∧ Hid (shapeB (ns 0) ns zs k = false)) (fun _ t => n - (intOf t).toNat)
  case atStart => exact ⟨0, Nat.zero_le _, rfl, rfl, rfl⟩
  case round =>
    obtain ⟨k, hk, rfl, hsl, HS⟩ := hrel
    have HSL := Hid.mk' hsl
    clear hsl
    rcases Nat.lt_or_ge k n with h1 | h1
    · have hkI : (k : Int) < (n : Int) := by omega
      have hk0 : (0 : Int) ≤ (k : Int) := by omega
      obtain ⟨hc, hnum⟩ := HR.out k h1
      obtain ⟨rad, rcap, hre⟩ := hnum.form
      rw [hre] at hc hnum
      have hnk := HLN.out k h1
      by_cases hsh : ns k = ns 0
      · have hle := Valid_weights a _ (ns k) (zs k) w HEE.out hnum (by omega)
        rw [weightsErr_fewC (by omega)] at hle
        have HS' : Hid (listErr (zs k) (ns k) ≠ 3 → shapeB (ns 0) ns zs (k + 1) = false) := fun h5 => by rw [shapeB, HS.out, decide_eq_false (by rw [hsh] at h5 ⊢; omega)]; rfl
        have HG : Hid (greatC ns zs (k + 1) = (greatC ns zs k || decide (256 < sumN (zs k) (ns k)))) := rfl
        rcases listErr_cases (zs k) (ns k) with h5 | h5 | h5
        · have hok := listErr_ok h5
          obtain ⟨rb, ro, rfl, hrow⟩ : ∃ rb ro, rad = some ⟨rb, ro, none⟩ ∧ RowAt w rb ro (ns k) (zs k) := by
            rcases hnum with ⟨_, _, _, h6⟩ | ⟨rb, ro, c, h6, _, h7⟩
            · have := hok.posN; omega
            · simp only [Value.slice.injEq, true_and] at h6
              exact ⟨rb, ro, h6.1, h7⟩
          have htot := total_some rb ro rcap (ns k) (zs k) w hrow (fun m hm => by have := hok.part hm; omega) (fun m hm => by have := hok.lt hm; omega) (by omega)
          have hsm := hok.part (Nat.le_refl (ns k))
          have HS2 := Hid.mk' (HS'.out (by rw [h5]; decide))
          rw [h5, errV_zero] at hle
          rw [hsh] at hle hc htot hsm HG
          have hnn : ((ns 0 : Int) != (ns 0 : Int)) = false := by simp
          generalize sumN (zs k) (ns 0) = sk at *
          clear h5 hsh hre hnum hok hrow HS'
          by_cases hg : 256 < sk
          · have HG' : Hid (greatC ns zs (k + 1) = true) := by show _ = _; rw [HG.out, decide_eq_true hg]; simp
            go_wp2_with fail
            refine hle.mono ?_
            clear hle
            rintro e w2 ⟨rfl, hw2⟩
            rw [hw2]
            clear hw2
            go_wp2_with fail
            refine htot.mono ?_
            clear htot
            rintro e w2 ⟨rfl, hw2⟩
            rw [hw2]
            clear hw2
            go_wp2_with fail
            exact ⟨⟨k + 1, h1, by go_num, by rw [HG'.out, if_pos rfl, errV_two], HS2⟩, by simp [intOf]; omega⟩
          · have hgd : decide (256 < sk) = false := decide_eq_false hg
            have HG' : Hid (greatC ns zs (k + 1) = greatC ns zs k) := by show _ = _; rw [HG.out, hgd]; simp
            go_wp2_with fail
            refine hle.mono ?_
            clear hle
            rintro e w2 ⟨rfl, hw2⟩
            rw [hw2]
            clear hw2
            go_wp2_with fail
            refine htot.mono ?_
            clear htot
            rintro e w2 ⟨rfl, hw2⟩
            rw [hw2]
            clear hw2
            go_wp2_with fail
            exact ⟨⟨k + 1, h1, by go_num, by rw [HG'.out]; exact HSL.out, HS2⟩, by simp [intOf]; omega⟩
        · have hgr : 256 < sumN (zs k) (ns k) := by
            have h6 := listErr_not3 (z := zs k) (n := ns k) (by rw [h5]; decide)
            rcases Int.lt_or_le 256 (sumN (zs k) (ns k)) with h7 | h7
            · exact h7
            · rw [listErr_none0 h6.1 h6.2 (by omega)] at h5; cases h5
          have HS2 := Hid.mk' (HS'.out (by rw [h5]; decide))
          have HG' : Hid (greatC ns zs (k + 1) = true) := by show _ = _; rw [HG.out, decide_eq_true hgr]; simp
          rw [h5, errV_two] at hle
          rw [hsh] at hle hc
          have hnn : ((ns 0 : Int) != (ns 0 : Int)) = false := by simp
          clear h5 hsh hre hnum hgr HS' HG
          go_wp2_with (first
            | (go_at_call 41; refine hle.mono ?_; rintro e w2 ⟨rfl, hw2⟩; rw [hw2]; clear hw2))
          exact ⟨⟨k + 1, h1, by go_num, by rw [HG'.out, if_pos rfl, errV_two], HS2⟩, by simp [intOf]; omega⟩
        · rw [h5, errV_three] at hle
          have HV : Hid (chanErr n ns zs = 3) := by show _ = _; rw [HE.out, if_pos (shapeB_at h1 (Or.inr h5))]
          rw [hsh] at hle hc
          have hnn : ((ns 0 : Int) != (ns 0 : Int)) = false := by simp
          clear h5 hsh hre hnum HS' HG
          go_wp2_with (first
            | (go_at_call 41; refine hle.mono ?_; rintro e w2 ⟨rfl, hw2⟩; rw [hw2]; clear hw2))
          go_ret
          exact ⟨by rw [HV.out, errV_three]; rfl, rfl⟩
      · have hne : ((ns k : Int) != (ns 0 : Int)) = true := by rw [bne_iff_ne]; omega
        have HV : Hid (chanErr n ns zs = 3) := by show _ = _; rw [HE.out, if_pos (shapeB_at h1 (Or.inl hsh))]
        clear hsh hre hnum
        go_wp2_with fail
        go_ret
        exact ⟨by rw [HV.out, errV_three]; rfl, rfl⟩
    · obtain rfl : n = k := by omega
      have HV : Hid (chanErr n ns zs = if greatC ns zs n = true then 2 else 0) := by show _ = _; rw [HE.out, HS.out, if_neg (by simp)]
      go_wp2_with fail
      go_ret
      exact ⟨by rw [HV.out, ← HSL.out]; rfl, rfl⟩
end Go.Proofs.YtojljmapdafmaaaDoor
