/- The law SecretShamir. -/
import Derived.Test.YtgklaadkglbclaaDoorShmM
import Derived.Test.YtgklaadkglbclaaDoorSkJq
import Derived.Test.YtgklaadkglbclaaDoorSkPerf
namespace Go.Proofs.YtgklaadkglbclaaDoor
open Go.RowKit

/-- A row in a block of its own stays where another one grows. -/
theorem own_apart {w w' : World} {base : Nat} {t : TypeId} {sz : Nat} {v : Value} {n : Nat} {xs : List Value} {row : Option Nat} (h : w.ownsRow base t sz v n xs) (hg : w.grownBy w' row) (hne : ∀ g, v.ownBlock = some g → row ≠ some g) : w'.ownsRow base t sz v n xs := by
  refine ⟨h.1, ?_⟩
  rcases h.2 with hn | ⟨g, cap, cur, hv, hge, hh, rest⟩
  · exact Or.inl hn
  · exact Or.inr ⟨g, cap, cur, hv, hge, by rw [hg.block g (heap_lt hh) (fun e => hne g (by rw [hv]; rfl) e.symm)]; exact hh, rest⟩
theorem own_lt {w : World} {base : Nat} {t : TypeId} {sz : Nat} {v : Value} {n : Nat} {xs : List Value} (h : w.ownsRow base t sz v n xs) {g : Nat} (hg : v.ownBlock = some g) : g < w.heap.size := by
  rcases h.2 with ⟨hn, _⟩ | ⟨g', cap, cur, hv, hge, hh, rest⟩
  · rw [hn] at hg; cases hg
  · rw [hv] at hg
    obtain rfl : g' = g := by simpa [Value.ownBlock] using hg
    exact heap_lt hh
/-- Two rows that are apart. -/
structure TwoR (w wr : World) (va vb : Value) (ka kb : Nat) (A V : Nat → Nat) : Prop where
  oa : wr.ownsRow w.heap.size 3 1 va ka (numCells (fun i => (A i : Int)) ka)
  ob : wr.ownsRow w.heap.size 3 1 vb kb (numCells (fun i => (V i : Int)) kb)
  ne : ∀ g, va.ownBlock = some g → vb.ownBlock ≠ some g
  below : Below w.heap.size w wr
theorem TwoR.pushA {w wr w' : World} {va vb : Value} {ka kb g cap : Nat} {A V : Nat → Nat} {X : Obj} (h : TwoR w wr va vb ka kb A V) (hg : (wr.alloc X).grownBy w' va.ownBlock) (ho : w'.ownsRow w.heap.size 3 1 (.slice (some ⟨g, 0, none⟩) (ka + 1) cap) (ka + 1) (numCells (fun i => (A i : Int)) (ka + 1))) (hat : va.ownBlock = some g ∨ g = (wr.alloc X).heap.size) : TwoR w w' (.slice (some ⟨g, 0, none⟩) (ka + 1) cap) vb (ka + 1) kb A V := by
  refine ⟨ho, own_apart (h.ob.alloc X) hg (fun q hq e => h.ne q e hq), fun q hq e => ?_, below_push h.below h.oa hg⟩
  obtain rfl : g = q := by simpa [Value.ownBlock] using hq
  rcases hat with h1 | h1
  · exact h.ne g h1 e
  · have := own_lt h.ob e
    rw [World.size_alloc] at h1
    omega
theorem TwoR.pushB {w wr w' : World} {va vb : Value} {ka kb g cap : Nat} {A V : Nat → Nat} {X : Obj} (h : TwoR w wr va vb ka kb A V) (hg : (wr.alloc X).grownBy w' vb.ownBlock) (ho : w'.ownsRow w.heap.size 3 1 (.slice (some ⟨g, 0, none⟩) (kb + 1) cap) (kb + 1) (numCells (fun i => (V i : Int)) (kb + 1))) (hat : vb.ownBlock = some g ∨ g = (wr.alloc X).heap.size) : TwoR w w' va (.slice (some ⟨g, 0, none⟩) (kb + 1) cap) ka (kb + 1) A V := by
  refine ⟨own_apart (h.oa.alloc X) hg (fun q hq e => h.ne q hq e), ho, fun q hq e => ?_, below_push h.below h.ob hg⟩
  obtain rfl : g = q := by simpa [Value.ownBlock] using e
  rcases hat with h1 | h1
  · exact h.ne g hq h1
  · have := own_lt h.oa hq
    rw [World.size_alloc] at h1
    omega
theorem row_someS {w : World} {base : Nat} {t : TypeId} {v : Value} {n : Nat} {xs : List Value} (h : w.ownsRow base t 1 v n xs) (h0 : 0 < n) : ∃ g c, v = .slice (some ⟨g, 0, none⟩) n c ∧ n ≤ c ∧ base ≤ g ∧ ∀ j, w.frozen? ⟨g, j, none⟩ = false := by
  rcases h.2 with ⟨_, h1⟩ | ⟨g, cap, cur, hv, hge, hh, hl, _⟩
  · omega
  · exact ⟨g, cap, hv, hl, hge, fun j => by simp [World.frozen?, hh]⟩
theorem first_from (f : Int) (X : Nat) (hf : 0 ≤ f) : ∃ s : Nat, s = f.toNat % X ∧ f.tmod (X : Int) = (s : Int) := by
  refine ⟨_, rfl, ?_⟩
  rw [Int.tmod_eq_emod_of_nonneg hf, Int.natCast_emod, Int.toNat_of_nonneg hf]
theorem first_emod (f : Int) (X : Nat) (hf : 0 ≤ f) : f % (X : Int) = ((f.toNat % X : Nat) : Int) := by
  rw [Int.natCast_emod, Int.toNat_of_nonneg hf]

set_option maxRecDepth 100000 in
set_option maxHeartbeats 8000000 in
theorem Shamir_main (a : Nat → Addr) (P m b o cap X : Nat) (c : Nat → Nat) (first guess : Int) (w : World) (hE : Errs w a) (hr : RowAt w b o m (fun i => (c i : Int))) (hc : ∀ i, c i < P) (hF : FldN P) (hX1 : 1 ≤ X) (hXP : X + 1 ≤ P) (hX24 : X ≤ 24) (h0 : 0 < m) (hm : m ≤ 12) (hmX : m ≤ X) (hf : -9223372036854775808 ≤ first ∧ first ≤ 9223372036854775807) :
    Calls Tryd.prog 6 #[.int .i64 (P : Int), .slice (some ⟨b, o, none⟩) m cap, .int .i64 (X : Int), .int .i64 first, .int .i64 guess] w fun e w' => e = .returned (.bool true) ∧ Below w.heap.size w w' := by
  have hp2 := hF.two
  have hp9 := hF.le
  have HP := Hid.mk' (pad_any a w hE)
  have HR := Hid.mk' (fun (W : World) (hb : Below w.heap.size w W) => hr.later hb)
  have HIN := Hid.mk' (fun (W : World) (hb : Below w.heap.size w W) => ints_any _ m (fun i => (c i : Int)) W (Or.inr ⟨b, o, cap, rfl, h0, hr.later hb⟩) (by omega))
  have HSH : Hid (∀ (v : Value) (W : World), NumsAt W v m (fun i => (c i : Int)) → ∃ b3 o3 c3, v = .slice (some ⟨b3, o3, none⟩) m c3 ∧ Calls Tryd.prog 18 #[.int .i64 (P : Int), .slice (some ⟨b3, o3, none⟩) m c3, .int .i64 (X : Int)] W fun e w' => ∃ g, e = .returned (.tuple #[.slice (some ⟨g, 0, none⟩) X X, .nilIface]) ∧ RowAt w' g 0 X (shaN P m c) ∧ Below W.heap.size W w') := fun v W hv => by
    rcases hv with ⟨_, _, _, hx⟩ | ⟨b3, o3, c3, rfl, _, hr3⟩
    · omega
    · exact ⟨b3, o3, c3, rfl, Share_ok P X m b3 o3 c3 c W hr3 hc hp2 hp9 hF.pr hX1 hXP hX24 h0 hm⟩
  obtain ⟨f, hfe, hf0⟩ : ∃ f : Int, f = (if first < 0 then -(first + 1) else first) ∧ 0 ≤ f := by
    refine ⟨_, rfl, ?_⟩
    split <;> omega
  obtain ⟨s, hs, hsf⟩ := first_from f X hf0
  have hsX : s < X := by rw [hs]; exact Nat.mod_lt _ (by omega)
  have hsE : f % (X : Int) = (s : Int) := by rw [first_emod f X hf0, hs]
  have hPl : Places P m (rotA X s) := rot_places (by omega) hXP hmX
  have HPL := Hid.mk' hPl
  have HFN := Hid.mk' hF
  obtain ⟨V, hVe⟩ : ∃ V : Nat → Nat, V = fun i => valN P c (rotA X s i) m := ⟨_, rfl⟩
  have hVl : ∀ i, V i < P := fun i => by rw [hVe]; exact valN_lt (by omega) m
  have HVL := Hid.mk' hVl
  have HJ0 : Hid (joN P m (rotA X s) V = c 0) := by show _ = _; rw [hVe]; exact shamir_joins hF hPl hc h0
  have HSV : Hid (∀ i, shaN P m c ((s + i) % X) = (V i : Int)) := fun i => by rw [hVe]; rfl
  have HRA : Hid (∀ i, rotA X s i = (s + i) % X + 1) := fun _ => rfl
  obtain ⟨i0, hi, hz0, hz1, hz2⟩ := info_parts Tryd.infoInt
  have HINF : Hid (Tryd.prog.info? 3 = some i0 ∧ i0.zero = some (.int .i64 0) ∧ i0.size = 1 ∧ i0.bytes = 8) := ⟨hi, hz0, hz1, hz2⟩
  have k1 : decide ((12 : Int) < (m : Int)) = false := decide_eq_false (by omega)
  have k2 : decide ((X : Int) < (m : Int)) = false := decide_eq_false (by omega)
  have k2' : decide (X < m) = false := decide_eq_false (by omega)
  have k3 : ((X : Int) != (X : Int)) = false := by simp
  have k4 : ((m : Int) == 0) = false := by rw [beq_eq_false_iff_ne]; omega
  have hXz : ¬ (X : Int) = 0 := by omega
  have hX0 : ¬ X = 0 := by omega
  have hXI : (X : Int) ≤ 24 := by omega
  have hmI : (m : Int) ≤ 12 := by omega
  have h0I : (0 : Int) < (m : Int) := by omega
  have hpI : (P : Int) ≤ 997 := by omega
  have HC0 := Hid.mk' (hc 0)
  generalize rotA X s = A at *
  have HE1 : Hid ((first < 0 ∧ -(first + 1) = f) ∨ (0 ≤ first ∧ first = f)) := by
    rcases Int.lt_or_le first 0 with h | h
    · rw [if_pos h] at hfe; exact Or.inl ⟨h, hfe.symm⟩
    · rw [if_neg (by omega)] at hfe; exact Or.inr ⟨h, hfe.symm⟩
  have HSI : Hid (∀ g : Int, joN P m A (setV V 0) = joN P m A (setV V 0)) := fun _ => rfl
  clear hE hr hc hF hPl hVe hVl hi hz0 hz1 hz2 hs hfe HSI
  go_enter Tryd.func6, Tryd.ntmps6
  go_wp2_with fail
  refine HP.out.mono ?_
  rintro e w1 ⟨rfl, hb1⟩
  have HB1 := Hid.mk' hb1
  clear hb1
  go_wp2_with fail
  refine (HIN.out _ HB1.out).mono ?_
  rintro e w2 ⟨v2, rfl, hv2, hb2⟩
  have HB2 := Hid.mk' (below_chS HB1.out hb2)
  obtain ⟨b3, o3, c3, hv2e, hS⟩ := HSH.out v2 w2 hv2
  rw [hv2e]
  clear hb2 hv2 hv2e v2
  go_wp2_with fail
  refine hS.mono ?_
  rintro e w3 ⟨gl, rfl, hrl, hb3⟩
  have HB3 := Hid.mk' (below_chS HB2.out hb3)
  have HRL := Hid.mk' hrl
  clear hS hb3 hrl
  rcases HE1.out with ⟨hsgn, he1⟩ | ⟨hsgn, he1⟩
  all_goals
    have HE2 := Hid.mk' he1
    clear he1 HE1
    go_wp2_with fail
    rw [HE2.out]
    clear HE2 hsgn hf
    go_loopw [14, 15, 16] (fun va vb t wr => ∃ k : Nat, k ≤ m ∧ t = .int .i64 k ∧ Hid (TwoR w3 wr va vb k k A V)) (fun _ _ t _ => m - (intOf t).toNat)
    case atStart => exact ⟨0, Nat.zero_le _, rfl, ⟨⟨rfl, Or.inl ⟨rfl, rfl⟩⟩, ⟨rfl, Or.inl ⟨rfl, rfl⟩⟩, (fun g hg => by cases hg), Below.refl _ _⟩⟩
    case round =>
      obtain ⟨k, hk, rfl, HT⟩ := hrel
      rcases Nat.lt_or_ge k m with h1 | h1
      · have hkI : (k : Int) < (m : Int) := by omega
        obtain ⟨x, hx⟩ : ∃ x, x = (s + k) % X := ⟨_, rfl⟩
        have hxX : x < X := by rw [hx]; exact Nat.mod_lt _ (by omega)
        have hxI : (x : Int) < (X : Int) := by omega
        have hx0 : (0 : Int) ≤ (x : Int) := by omega
        have hx1 : ((s : Int) + (k : Int)) % (X : Int) = (x : Int) := by rw [hx, Int.natCast_emod, Int.natCast_add]
        have hx2 : ((s : Int) + (k : Int)).tmod (X : Int) = (x : Int) := by rw [Int.tmod_eq_emod_of_nonneg (by omega)]; exact hx1
        have HAX : Hid ((A k : Int) = (x : Int) + 1) := by show _ = _; rw [HRA.out k, ← hx]; omega
        have HVX := Hid.mk' (HSV.out k)
        rw [← hx] at HVX
        have HCX : Hid (∀ W, Below w3.heap.size w3 W → W.cell? ⟨gl, x, none⟩ = some (.int .i64 (V k : Int))) := fun W hb => by
          have := HRL.out.later hb x hxX
          rwa [Nat.zero_add, HVX.out] at this
        have hzB := HT.out.below.size
        have hsI : (s : Int) < 24 := by omega
        clear hx
        go_upto_region 18 with (at_builtin; go_must (refine wpList_append_lies _ rfl _ _ _ rfl w3.heap.size 3 i0 _ 1 8 Tryd.underlying22 HINF.out.1 HINF.out.2.1 HINF.out.2.2.1 HINF.out.2.2.2 rfl (by omega) u14 _ _ rfl (HT.out.oa.alloc _) ⟨wr.heap.size, 0, none⟩ 1 1 [.int .i64 ((x : Int) + 1)] rfl rfl (one_new _ _ _) (by simp [Value.oneCell']) (by omega) (by unfold maxLen; omega) (by omega) (by simp; omega) _ rfl ?_; intro g5 cap5 w5 hown5 hgrow5 hat5 hlt5; rw [← HAX.out] at hown5; have HT5 := Hid.mk' (HT.out.pushA hgrow5 hown5 hat5); clear hown5 hgrow5 hat5))
        have hcx := HCX.out w5 HT5.out.below
        have hzC := HT5.out.below.size
        go_wp2_with (at_builtin; go_must (refine wpList_append_lies _ rfl _ _ _ rfl w3.heap.size 3 i0 _ 1 8 Tryd.underlying22 HINF.out.1 HINF.out.2.1 HINF.out.2.2.1 HINF.out.2.2.2 rfl (by omega) u15 _ _ rfl (HT5.out.ob.alloc _) ⟨w5.heap.size, 0, none⟩ 1 1 [.int .i64 (V k : Int)] rfl rfl (one_new _ _ _) (by simp [Value.oneCell']) (by omega) (by unfold maxLen; omega) (by omega) (by simp; omega) _ rfl ?_; intro g6 cap6 w6 hown6 hgrow6 hat6 hlt6; have HT6 := Hid.mk' (HT5.out.pushB hgrow6 hown6 hat6); clear hown6 hgrow6 hat6))
        exact ⟨⟨k + 1, h1, by go_num, HT6⟩, by simp [intOf]; omega⟩
      · obtain rfl : k = m := by omega
        obtain ⟨ga, ca, hae, hac, hage, _⟩ := row_someS HT.out.oa h0
        obtain ⟨gv, cv, hbe, hbc, hbge, hbf⟩ := row_someS HT.out.ob h0
        have hab : ga ≠ gv := fun e => HT.out.ne ga (by rw [hae]; rfl) (by rw [hbe, e]; rfl)
        have hoa := HT.out.oa
        have hob := HT.out.ob
        rw [hae] at hoa
        rw [hbe] at hob
        have HRA' := Hid.mk' (rowAt_of_row hoa)
        have HRV' := Hid.mk' (rowAt_of_row hob)
        have HBT := Hid.mk' (below_chS HB3.out HT.out.below)
        have HFZ : Hid (wr.frozen? ⟨gv, 0, none⟩ = false) := hbf 0
        have HGV : Hid (w3.heap.size ≤ gv) := hbge
        have hJ0 := Join_ok P k ga 0 ca gv 0 cv A V wr HRA'.out hac HRV'.out HFN.out HPL.out HVL.out h0 hm
        rw [HJ0.out] at hJ0
        rw [hae, hbe]
        have hcf : wr.cell? ⟨b, o, none⟩ = some (.int .i64 (c 0 : Int)) := by have := HR.out wr HBT.out 0 h0; rwa [Nat.add_zero] at this
        have hcc : ((c 0 : Int) != (c 0 : Int)) = false := by simp
        clear hae hbe hoa hob hbf hage hbge HT
        generalize c 0 = c0 at *
        go_wp2_with fail
        refine hJ0.mono ?_
        rintro e w5 ⟨rfl, hw5⟩
        rw [hw5]
        clear hw5 w5 hJ0
        by_cases hg0 : guess < 0
        · go_wp2_with fail
          go_ret
          exact ⟨rfl, HBT.out⟩
        · have hg0' : decide (guess < 0) = false := decide_eq_false hg0
          by_cases hg1 : (P : Int) ≤ guess
          · clear hg0
            go_wp2_with fail
            go_ret
            exact ⟨rfl, HBT.out⟩
          · have hg1' : decide ((P : Int) ≤ guess) = false := decide_eq_false hg1
            obtain ⟨G, rfl⟩ : ∃ G : Nat, guess = (G : Int) := ⟨_, (Int.toNat_of_nonneg (by omega)).symm⟩
            have hGP : G < P := by omega
            have hg1n : decide (P ≤ G) = false := decide_eq_false (by omega)
            obtain ⟨v0, hv0, hone⟩ := one_only (V := V) HFN.out HPL.out h0 hGP
            have HCN : Hid (cntV (fun v => joN P k A (setV V v)) G P = 1) := by show _ = _; rw [cntV_one hone P (Nat.le_refl _), if_pos hv0]
            obtain ⟨wq, hwq⟩ : ∃ wq, wq = wr := ⟨_, rfl⟩
            rw [← hwq] at HRA' HRV' HBT HFZ hcf ⊢
            clear hwq hone hg0 hg1 hv0
            go_wp2_with fail
            clear hcf
            go_loopw [19, 20] (fun q t wr => ∃ v : Nat, v ≤ P ∧ t = .int .i64 v ∧ q = .int .i64 (cntV (fun v => joN P k A (setV V v)) G v : Int) ∧ Hid (∃ u, RowAt wr gv 0 k (fun i => (setV V u i : Int))) ∧ Hid (RowAt wr ga 0 k (fun i => (A i : Int))) ∧ Hid (wr.frozen? ⟨gv, 0, none⟩ = false) ∧ Hid (Below w.heap.size w wr)) (fun _ t _ => P - (intOf t).toNat)
            case atStart => exact ⟨0, Nat.zero_le _, rfl, rfl, ⟨V 0, fun i hi => by have := HRV'.out i hi; rw [this]; by_cases e : i = 0 <;> simp [setV, e]⟩, HRA', HFZ, HBT⟩
            case round =>
              clear HRA' HRV' HFZ HBT
              obtain ⟨v, hv, rfl, rfl, HRV, HRA2, HFZ, HBT⟩ := hrel
              have hcl := cntV_le (fun v => joN P k A (setV V v)) G v
              rcases Nat.lt_or_ge v P with h2 | h2
              · have hvI : (v : Int) < (P : Int) := by omega
                obtain ⟨u, hu⟩ := HRV.out
                have hcu := hu 0 h0
                rw [Nat.zero_add] at hcu
                have hfz := HFZ.out
                obtain ⟨w6, hw6⟩ : ∃ w6, w6 = wr.setCell ⟨gv, 0, none⟩ (.int .i64 (v : Int)) := ⟨_, rfl⟩
                have hr6 : RowAt w6 gv 0 k (fun i => (setV V v i : Int)) := fun i hi => by
                  rw [hw6]
                  by_cases e : i = 0
                  · subst e
                    rw [Nat.zero_add, World.cell?_setCell_same _ _ _ hcu]
                    simp [setV]
                  · rw [World.cell?_setCell_other _ _ _ _ (fun h9 => e (by have := congrArg Addr.off h9; simp at this; omega)), hu i hi]
                    simp [setV, e]
                have ha6 : RowAt w6 ga 0 k (fun i => (A i : Int)) := fun i hi => by
                  rw [hw6, World.cell?_setCell_other _ _ _ _ (fun h9 => hab (congrArg Addr.block h9).symm)]
                  exact HRA2.out i hi
                have hJv := Join_ok P k ga 0 ca gv 0 cv A (setV V v) w6 ha6 hac hr6 HFN.out HPL.out (fun i => by unfold setV; split; exact h2; exact HVL.out i) h0 hm
                have HR6 := Hid.mk' hr6
                have HA6 := Hid.mk' ha6
                have HF6 : Hid (w6.frozen? ⟨gv, 0, none⟩ = false) := by show _ = _; rw [hw6, World.frozen?_setCell]; exact hfz
                have HB6 : Hid (Below w.heap.size w w6) := by
                  show Below _ _ _
                  rw [hw6]
                  exact HBT.out.setCell (by have h7 := HGV.out; have h8 := HB3.out.size; show w.heap.size ≤ gv; omega) _
                have HCS : Hid (cntV (fun v => joN P k A (setV V v)) G (v + 1) = cntV (fun v => joN P k A (setV V v)) G v + if joN P k A (setV V v) = G then 1 else 0) := rfl
                have HW6 := Hid.mk' hw6
                have hjl := joN_lt (m := k) (A := A) (V := setV V v) hp2
                generalize joN P k A (setV V v) = jv at *
                generalize hcn : cntV (fun v => joN P k A (setV V v)) G v = cn at *
                clear hu hr6 ha6 hw6 hcn
                by_cases e : jv = G
                · rw [if_pos e] at HCS
                  have hb : ((jv : Int) == (G : Int)) = true := by rw [beq_iff_eq]; omega
                  clear e
                  go_upto_region 29 with fail
                  rw [← HW6.out]
                  clear hcu hfz
                  go_wp2_with fail
                  refine hJv.mono ?_
                  rintro e w7 ⟨rfl, hw7⟩
                  rw [hw7]
                  clear hw7 w7 hJv
                  go_wp2_with fail
                  exact ⟨⟨v + 1, h2, by go_num, by rw [HCS.out]; go_num, ⟨v, HR6.out⟩, HA6, HF6, HB6⟩, by simp [intOf]; omega⟩
                · rw [if_neg e] at HCS
                  have hb : ((jv : Int) == (G : Int)) = false := by rw [beq_eq_false_iff_ne]; omega
                  clear e
                  go_upto_region 29 with fail
                  rw [← HW6.out]
                  clear hcu hfz
                  go_wp2_with fail
                  refine hJv.mono ?_
                  rintro e w7 ⟨rfl, hw7⟩
                  rw [hw7]
                  clear hw7 w7 hJv
                  go_wp2_with fail
                  exact ⟨⟨v + 1, h2, by go_num, by rw [HCS.out]; rfl, ⟨v, HR6.out⟩, HA6, HF6, HB6⟩, by simp [intOf]; omega⟩
              · obtain rfl : v = P := by omega
                rw [HCN.out]
                go_wp2_with fail
                go_ret
                exact ⟨rfl, HBT.out⟩
end Go.Proofs.YtgklaadkglbclaaDoor
